/-
  Texts of our own that serve the card of this claim, joined into one.
-/
import Derived.Test.YthdohcjingfpoaaGreatDoorKF
import Derived.Test.YthdohcjingfpoaaGreatDoorKB
import Derived.Test.YthdohcjingfpoaaGreatDoorRE
import Derived.Test.YthdohcjingfpoaaGreatDoorWB
namespace Go.Proofs.YthdohcjingfpoaaGreatDoor.Dk
open Go.RowKit Qu Go.Maps
variable {w w' W wB:World} {b:Nat} {D:Ds} {R:Raw}
theorem set_cells {w:World} {b j:Nat} {L:List Value} {T:TypeId} (h:w.heap[b]?=some (.cells L.toArray T (0,0))) (u:Value):(w.setCell ⟨b,j,none⟩ u).heap[b]?=some (.cells (L.set j u).toArray T (0,0)):=by
 rw [setCell_eq_setRow w b j _ T (0,0) u h,setRow_heap w b _ _ _ _ h]
 simp
theorem Dm.putT {x u:Value} {M L:List Rq} (h:Dm wB b D R) (hB:Below wB.heap.size wB w) (hx:Ow w 0 x M) (hxb:∀ g,x.ownBlock=some g→wB.heap.size≤g) (hg:w.grownBy w' R.sn.ownBlock) (ho:Ow w' 0 u L) (hu:u.ownBlock=R.sn.ownBlock) (n:Int) :
 Dm (((w'.setCell ⟨b,4,none⟩ x).setCell ⟨b,5,none⟩ u).setCell ⟨b,3,none⟩ (.int .i64 n)) b { D with rung:=M,snz:=L,now:=n } { R with ru:=x,sn:=u }∧Kd b R { R with ru:=x,sn:=u } wB (((w'.setCell ⟨b,4,none⟩ x).setCell ⟨b,5,none⟩ u).setCell ⟨b,3,none⟩ (.int .i64 n)):=by
 have hw:=h.onB hB
 obtain ⟨g1,g2,g3⟩:=hw.grown (Or.inr rfl) hg
 have hb':w'.heap[b]?=some (.cells (dcells D R).toArray 82 (0,0)):=g1.trans hw.box
 have ot:∀ {k:Nat},k≠b→(((w'.setCell ⟨b,4,none⟩ x).setCell ⟨b,5,none⟩ u).setCell ⟨b,3,none⟩ (.int .i64 n)).heap[k]?=w'.heap[k]?:=fun hk=>(set_other _ b 3 _ hk).trans ((set_other _ b 5 _ hk).trans (set_other _ b 4 _ hk))
 have hs:wB.heap.size≤(((w'.setCell ⟨b,4,none⟩ x).setCell ⟨b,5,none⟩ u).setCell ⟨b,3,none⟩ (.int .i64 n)).heap.size:=by simpa using Nat.le_trans hB.size hg.size
 have sn_lt:∀ {g},R.sn.ownBlock=some g→g<wB.heap.size:=fun e=>(h.snz.lt _ e).2
 have hk:∀ k,k<wB.heap.size→¬ Fd b R k→(((w'.setCell ⟨b,4,none⟩ x).setCell ⟨b,5,none⟩ u).setCell ⟨b,3,none⟩ (.int .i64 n)).heap[k]?=wB.heap[k]?:=fun k hk hf=>(ot (fun e=>hf (Or.inl e))).trans ((g3 k (Nat.lt_of_lt_of_le hk hB.size) hf).trans (hB.block k hk))
 have hfd:∀ g,Fd b { R with ru:=x,sn:=u } g→Fd b R g∨wB.heap.size≤g:=fun g hg2=>by
  rcases hg2 with z | z | z | z
  ·exact Or.inl (Or.inl z)
  ·exact Or.inl (Or.inr (Or.inl z))
  ·exact Or.inr (hxb g z)
  ·exact Or.inl (Or.inr (Or.inr (Or.inr (by rw [← hu];exact z))))
 refine ⟨h.next hs hk ?_ (own_map h.map ((ot h.ne_map).trans (g2.trans (hB.block _ h.map.lt)))) h.le (fun _ h=>h) rfl rfl rfl ?_ ?_ ?_ hfd,
  Kd.next (hg.os.trans hB.os) (hg.tape.trans hB.tape) (hg.output.trans hB.output) hs hk rfl hfd⟩
 ·have e1:=set_cells (j:=4) hb' x
  have e2:=set_cells (j:=5) e1 u
  have e3:=set_cells (j:=3) e2 (.int .i64 n)
  rw [e3]
  rfl
 ·refine own_on hx (fun g hg2=>?_)
  have hge:=hxb g hg2
  have hne:g≠b:=fun e=>by have:=h.lt;omega
  exact (ot hne).trans (hg.block g (hx.lt g hg2).2 (fun e=>by have:=sn_lt e.symm;omega))
 ·refine own_on ho (fun g hg2=>ot (fun e=>?_))
  rw [hu] at hg2
  exact (h.ne_row h.snz hg2).1 e
 ·intro g hg2 hg3
  have hge:=hxb g hg2
  have h4:u.ownBlock=some g:=hg3
  rw [hu] at h4
  have:=sn_lt h4
  omega
def ticF (D:Ds) (t:Int):Int:=if tkF D.now t=0 then (if D.now=0 then 0 else if duF D t=0 then (if 400<D.rung.length + (duL D t).length then 4 else 0) else duF D t) else tkF D.now t
def ticL (D:Ds) (t:Int):List Rq:=if ticF D t=0∧¬ D.now=0 then duL D t else []
def Ds.tick (D:Ds) (t:Int):Ds:=if ticF D t=0 then (if D.now=0 then { D with now:=t } else { D with rung:=D.rung++duL D t,snz:=laterQ D.snz t,now:=t }) else D
def DoL (f:Int) (L:List Rq) (D':Ds) (b:Nat) (R:Raw) (w:World) (x:Ending) (w':World):Prop:=∃ u,x=.returned (.tuple #[u,fault f])∧Ow w' w.heap.size u L∧∃ R',Dm w' b D' R'∧Kd b R R' w w'∧∀ g,u.ownBlock=some g→¬ (Fd b R' g∨R'.S g)
theorem DoL.none {f:Int} {D':Ds} {R R':Raw} (h:Dm w' b D' R') (k:Kd b R R' w w'):DoL f [] D' b R w (.returned (.tuple #[.slice none 0 0,fault f])) w':=⟨_,rfl,World.ownsRow_nil _ _ _ _,R',h,k,fun g hg=>by cases hg⟩
set_option maxRecDepth 100000 in
set_option maxHeartbeats 8000000 in
theorem dtick_any (t:Int) (h:Dm w b D R) (hT:Tab w) (hs:Srt D.ev) (hn:∀ e∈D.ev,e.name.size≤8) (h2:D.snz.length≤1000) (h3:D.ev.length≤100) (h4:D.rung.length≤1000) (h0:0≤D.now) (h1:D.now≤157785119) :
 Calls Tryz.prog 31 #[.pointer (some ⟨b,0,none⟩),.int .i64 t] w (DoL (ticF D t) (ticL D t) (D.tick t) b R w):=by
 obtain ⟨W0,hW0⟩:∃ W0,W0=w.alloc (.cells #[.int .i64 t] 3):=⟨_,rfl⟩
 have b0:Below w.heap.size w W0:=by rw [hW0];exact below_alloc _ _
 have c0:W0.cell? ⟨w.heap.size,0,none⟩=some (.int .i64 t):=by rw [hW0];simp
 have f0:W0.frozen? ⟨b,3,none⟩=false:=(h.onB b0).frozen 3
 have c3:=(h.onB b0).cells.2.2.2.1
 have bl:b<w.heap.size:=h.lt
 have bl0:b<W0.heap.size:=(h.onB b0).lt
 have gl:=cell_in c0
 have HD:Hid (∀ X,Below W0.heap.size W0 X→Dm X b D R∧Kd b R R w X):=Lib.hid (fun X q=>⟨(h.onB b0).onB q,(Kd.of_below b R b0).trans (Kd.of_below b R q)⟩)
 have KC:Hid (Calls Tryz.prog 66 #[.pointer (some ⟨b,0,none⟩),.int .i64 t] W0 fun x w'=>x=.returned (fault (tkF D.now t))∧w'=W0):=Lib.hid (dcheck_any t (h.onB b0) h0 h1)
 have HW:=Lib.hid hW0
 by_cases hF:tkF D.now t=0
 case neg=>
  have e1:ticF D t=tkF D.now t:=if_neg hF
  have e2:ticL D t=[]:=if_neg (fun q=>hF (by rw [← e1];exact q.1))
  have e3:D.tick t=D:=if_neg (by rw [e1];exact hF)
  rw [e1,e2,e3]
  have N1:=Lib.hid (DoL.none (f:=tkF D.now t) (HD.out W0 (Below.refl _ _)).1 (HD.out W0 (Below.refl _ _)).2)
  generalize DoL (tkF D.now t) [] D b R w=PP at N1 ⊢
  rw [efault_ne hF] at KC N1
  generalize tkF D.now t=F at KC N1
  clear h hT hs hn h2 h3 h4 hW0 b0 hF e1 e2 e3 HD
  go_enter Tryz.func31,Tryz.ntmps31
  go_upto_region 1 with fail
  rw [← HW.out]
  go_wp2_with (go_at_call 66;refine KC.out.mono ?_;rintro x w2 ⟨rfl,hw⟩;replace hw:=hw.symm;subst hw)
  exact N1.out
 rw [hF,efault_0] at KC
 by_cases hz:D.now=0
 ·have e1:ticF D t=0:=by unfold ticF;rw [if_pos hF,if_pos hz]
  have e2:ticL D t=[]:=if_neg (fun q=>q.2 hz)
  have e3:D.tick t={ D with now:=t }:=by unfold Ds.tick;rw [if_pos e1,if_pos hz]
  rw [e1,e2,e3]
  obtain ⟨p1,p2⟩:=(HD.out W0 (Below.refl _ _)).1.putN t
  have N1:=Lib.hid (DoL.none (f:=0) p1 ((HD.out W0 (Below.refl _ _)).2.trans p2))
  generalize DoL 0 [] { D with now:=t } b R w=PP at N1 ⊢
  rw [efault_0] at N1
  rw [hz] at c3
  clear h hT hs hn h2 h3 h4 hW0 b0 hF e1 e2 e3 HD p1 p2
  go_enter Tryz.func31,Tryz.ntmps31
  go_upto_region 1 with fail
  rw [← HW.out]
  go_wp2_with (go_at_call 66;refine KC.out.mono ?_;rintro x w2 ⟨rfl,hw⟩;replace hw:=hw.symm;subst hw)
  exact N1.out
 have KU:=Lib.hid (ddue_any t (HD.out W0 (Below.refl _ _)).1 (hT.below b0) hs hn h2 h3 h0 h1)
 have c3':W0.cell? ⟨b,3,none⟩=some (.int .i64 D.now):=c3
 by_cases hU:duF D t=0
 case neg=>
  have e1:ticF D t=duF D t:=by unfold ticF;rw [if_pos hF,if_neg hz,if_neg hU]
  have e2:ticL D t=[]:=if_neg (fun q=>hU (by rw [← e1];exact q.1))
  have e3:D.tick t=D:=if_neg (by rw [e1];exact hU)
  rw [e1,e2,e3]
  have N1:Hid (∀ X,Below W0.heap.size W0 X→DoL (duF D t) [] D b R w (.returned (.tuple #[.slice none 0 0,fault (duF D t)])) X):=Lib.hid (fun X q=>DoL.none (HD.out X q).1 (HD.out X q).2)
  have K2:Hid (Calls Tryz.prog 67 #[.pointer (some ⟨b,0,none⟩),.int .i64 t] W0 fun x w'=>∃ u,x=.returned (.tuple #[u,fault (duF D t)])∧Below W0.heap.size W0 w'):=Lib.hid (KU.out.mono (fun x w' ⟨u,a,_,c⟩=>⟨u,a,c⟩))
  generalize DoL (duF D t) [] D b R w=PP at N1 ⊢
  rw [efault_ne hU] at K2 N1
  generalize duF D t=F at K2 N1
  clear h hT hs hn h2 h3 h4 hW0 b0 hF e1 e2 e3 HD KU hU
  go_enter Tryz.func31,Tryz.ntmps31
  go_upto_region 1 with fail
  rw [← HW.out]
  go_upto_region 4 with (go_at_call 66;refine KC.out.mono ?_;rintro x w2 ⟨rfl,hw⟩;replace hw:=hw.symm;subst hw)
  go_wp2_with (go_at_call 67;refine K2.out.mono ?_;rintro x w3 ⟨u,rfl,hb⟩)
  exact N1.out w3 hb
 obtain ⟨ra,rc,hru,_⟩:=h.rung.rd
 have e1:ticF D t=if 400<D.rung.length + (duL D t).length then 4 else 0:=by unfold ticF;rw [if_pos hF,if_neg hz,if_pos hU]
 have dl:(duL D t).length≤100000:=by
  unfold duL
  rw [if_pos hU]
  have q1:=srtQ_len (duG D t D.ev.length)
  have q2:=duG_len D t D.ev.length
  omega
 have KX:Hid (Calls Tryz.prog 67 #[.pointer (some ⟨b,0,none⟩),.int .i64 t] W0 fun x w1=>∃ ta tn tc,x=.returned (.tuple #[.slice ta tn tc,.nilIface])∧b<w1.heap.size∧w1.cell? ⟨b,4,none⟩=some (.slice ra D.rung.length rc)∧
  Hid (Calls Tryz.prog 68 #[.slice (some ⟨w1.heap.size,0,none⟩) 2 2] (w1.alloc (.cells #[.slice ra D.rung.length rc,.slice ta tn tc] 41)) fun y w2=>∃ xa xc,y=.returned (.slice xa (D.rung.length + (duL D t).length) xc)∧b<w2.heap.size∧w2.cell? ⟨b,5,none⟩=some R.sn∧w2.cell? ⟨w.heap.size,0,none⟩=some (.int .i64 t)∧
   Hid (400<D.rung.length + (duL D t).length→DoL (ticF D t) (ticL D t) (D.tick t) b R w (.returned (.tuple #[.slice none 0 0,.iface 86 (.int .i64 4)])) w2)∧
   Hid (¬ 400<D.rung.length + (duL D t).length→Calls Tryz.prog 70 #[R.sn,(.func (.func 69) #[] #[.pointer (some ⟨w.heap.size,0,none⟩)])] w2.drew fun z w7=>∃ ua un uc,z=.returned (.slice ua un uc)∧w7.cell? ⟨w.heap.size,0,none⟩=some (.int .i64 t)∧(w7.cell? ⟨b,3,none⟩=some (.int .i64 D.now)∧w7.cell? ⟨b,4,none⟩=some R.ru∧w7.cell? ⟨b,5,none⟩=some R.sn∧w7.frozen? ⟨b,3,none⟩=false∧w7.frozen? ⟨b,4,none⟩=false∧w7.frozen? ⟨b,5,none⟩=false∧b<w7.heap.size)∧Hid (∀ xn,xn=D.rung.length + (duL D t).length→DoL (ticF D t) (ticL D t) (D.tick t) b R w (.returned (.tuple #[.slice ta tn tc,.nilIface])) (((w7.setCell ⟨b,4,none⟩ (.slice xa xn xc)).setCell ⟨b,5,none⟩ (.slice ua un uc)).setCell ⟨b,3,none⟩ (.int .i64 t)))))):=Lib.hid
  (KU.out.mono (fun x w1 ⟨u,hx,ho,hb⟩=>by
   obtain ⟨ta,tc,rfl,hrd⟩:=ho.rd
   have hord:Rd w1 (.slice ta (duL D t).length tc) (duL D t):=ho.rd
   rw [hU,efault_0] at hx
   have d1:=(HD.out w1 hb).1
   have k1:=(HD.out w1 hb).2
   have c41:=d1.cells.2.2.2.2.1
   rw [hru] at c41
   refine ⟨ta,_,tc,hx,d1.lt,c41,Lib.hid ?_⟩
   obtain ⟨Y,hY⟩:∃ Y,Y=w1.alloc (.cells #[.slice ra D.rung.length rc,.slice ta (duL D t).length tc] 41):=⟨_,rfl⟩
   have bY:Below w1.heap.size w1 Y:=by rw [hY];exact below_alloc _ _
   have tY:Two2 Y w1.heap.size (.slice ra D.rung.length rc) (.slice ta (duL D t).length tc):=by rw [hY];exact ⟨by simp,by simp⟩
   have rY:Rd Y (.slice ra D.rung.length rc) D.rung:=by rw [← hru];exact (d1.onB bY).rung.rd
   rw [← hY]
   refine (cat_any D.rung (duL D t) _ _ _ Y tY rY (hord.on bY) (by omega) dl).mono (fun y w2 ⟨xv,hy,hxo,hb2⟩=>?_)
   have b2:Below w1.heap.size w1 w2:=bY.trans (hb2.mono bY.size)
   have b02:Below W0.heap.size W0 w2:=hb.trans (b2.mono hb.size)
   obtain ⟨xa,xc,rfl,_⟩:=hxo.rd
   have d2:=(HD.out w2 b02).1
   have ct2:=(b02.cell (p:=⟨w.heap.size,0,none⟩) gl).trans c0
   refine ⟨xa,xc,by rw [hy,List.length_append],d2.lt,d2.cells.2.2.2.2.2,ct2,Lib.hid (fun q=>?_),Lib.hid (fun q=>?_)⟩
   ·have e2:ticF D t=4:=by rw [e1,if_pos q]
    have e3:ticL D t=[]:=if_neg (fun z=>by rw [e2] at z;cases z.1)
    have e4:D.tick t=D:=if_neg (by rw [e2];decide)
    rw [e2,e3,e4]
    exact DoL.none d2 (HD.out w2 b02).2
   ·have e2:ticF D t=0:=by rw [e1,if_neg q]
    have e3:ticL D t=duL D t:=if_pos ⟨e2,hz⟩
    have e4:D.tick t={ D with rung:=D.rung++duL D t,snz:=laterQ D.snz t,now:=t }:=by unfold Ds.tick;rw [if_pos e2,if_neg hz]
    have bd:Below w2.heap.size w2 w2.drew:=Below.drew (Below.refl _ _)
    have dd:=d2.onB bd
    have eg:∀ args w,(callFunc 69 args).run Tryz.prog w=.ok (.enter 69 args) w:=enters_of Tryz.func69 (by kernel_rfl) rfl
    refine (delQ _ _ (fun z=>decide (z.1≤t)) D.snz 0 R.sn w2.drew eg (fun c X qq=>isDue_any c t _ X ?_) dd.snz (by omega)).mono (fun z w7 ⟨uv,hz2,hou,huu,hgu⟩=>?_)
    ·exact (World.cell?_of_block (a:=⟨w.heap.size,0,none⟩) (qq.block _ (cell_in ct2) (fun e=>by have:w.heap.size<w.heap.size:=(h.snz.lt _ e.symm).2;omega))).trans ct2
    ·rw [later_not] at hou
     obtain ⟨ua,uc,rfl,_⟩:=hou.rd
     obtain ⟨g1,_,_⟩:=dd.grown (Or.inr rfl) hgu
     have bx7:=g1.trans dd.box
     have cl:∀ {j:Nat} {v:Value},(dcells D R)[j]?=some v→w7.cell? ⟨b,j,none⟩=some v:=fun {j v} hv=>by simp [World.cell?,bx7,hv]
     have fr:∀ j,w7.frozen? ⟨b,j,none⟩=false:=fun j=>by simp [World.frozen?,bx7]
     have ct7:w7.cell? ⟨w.heap.size,0,none⟩=some (.int .i64 t):=(World.cell?_of_block (a:=⟨w.heap.size,0,none⟩) (hgu.block _ (cell_in ct2) (fun e=>by have:w.heap.size<w.heap.size:=(h.snz.lt _ e.symm).2;omega))).trans ct2
     refine ⟨ua,_,uc,hz2,ct7,⟨cl rfl,cl rfl,cl rfl,fr 3,fr 4,fr 5,Nat.lt_of_lt_of_le dd.lt hgu.size⟩,Lib.hid (fun xn hxn=>?_)⟩
     subst hxn
     rw [← List.length_append]
     have hxo':Ow w2.drew 0 (.slice xa (D.rung++duL D t).length xc) (D.rung++duL D t):=own_lower hxo (Nat.zero_le _)
     obtain ⟨p1,p2⟩:=d1.putT (b2.trans (bd.mono b2.size)) hxo' (fun g hg=>Nat.le_trans bY.size (hxo.lt g hg).1) hgu hou huu t
     rw [e2,e3,e4]
     have tl:∀ g,(Value.slice ta (duL D t).length tc).ownBlock=some g→W0.heap.size≤g∧g<w1.heap.size:=fun g hg=>ho.lt g hg
     refine ⟨_,by rw [efault_0],?_,_,p1,k1.trans p2,fun g hg z=>?_⟩
     ·refine own_lower (own_on ho (fun g hg=>?_)) b0.size
      obtain ⟨q1,q2⟩:=tl g hg
      have ne:g≠b:=by omega
      refine (set_other _ b 3 _ ne).trans ((set_other _ b 5 _ ne).trans ((set_other _ b 4 _ ne).trans ((hgu.block g (Nat.lt_of_lt_of_le q2 b2.size) (fun e=>?_)).trans (b2.block g q2))))
      have:=(h.snz.lt _ e.symm).2
      have:=b0.size
      omega
     ·obtain ⟨q1,q2⟩:=tl g hg
      have:=b0.size
      rcases z with (z | z | z | z) | z
      ·omega
      ·have z2:g=R.bm:=z
       have:=h.map.lt
       omega
      ·have z2:(Value.slice xa (D.rung++duL D t).length xc).ownBlock=some g:=z
       have:=(hxo.lt g z2).1
       have:w1.heap.size<Y.heap.size:=by rw [hY,World.size_alloc];omega
       omega
      ·have z2:=huu ▸ (show (Value.slice ua (laterQ D.snz t).length uc).ownBlock=some g from z)
       have:=(h.snz.lt g z2).2
       omega
      ·have:=(h.sin g z).1
       omega))
 generalize DoL (ticF D t) (ticL D t) (D.tick t) b R w=PP at KX ⊢
 generalize hll:D.rung.length + (duL D t).length=ll at KX
 have hlz:ll≤200000:=by omega
 clear h hT hs hn h2 h3 h4 hW0 b0 hF HD KU hU hru e1 dl hll
 go_enter Tryz.func31,Tryz.ntmps31
 go_upto_region 1 with fail
 rw [← HW.out]
 go_upto_region 7 with (go_at_call 66;refine KC.out.mono ?_;rintro x w2 ⟨rfl,hw⟩;replace hw:=hw.symm;subst hw)
 go_wp2_with fail
 refine KX.out.mono ?_
 rintro x w1 ⟨ta,tn,tc,rfl,l1,k4,KY⟩
 clear KX KC c3 c3' c0 f0 bl0 gl
 go_wp2_with fail
 refine KY.out.mono ?_
 rintro x w2 ⟨xa,xc,rfl,l2,k5,kt,NB,KZ⟩
 clear KY k4 l1
 have gl2:=cell_in kt
 by_cases hq:400<ll
 ·have hq2:(400:Int)<(ll:Int):=by omega
  have N1:=Lib.hid (NB.out hq)
  clear NB KZ
  go_wp2
  exact N1.out
 ·have hq2:¬ (400:Int)<(ll:Int):=by omega
  have K9:=Lib.hid (KZ.out hq)
  clear NB KZ
  go_upto_region 14 with fail
  go_region_with (first | (go_at_call 70;refine K9.out.mono ?_;rintro x w7 ⟨ua,un,uc,rfl,kt7,⟨k3,k4,k5,f3,f4,f5,l7⟩,FI⟩))
  all_goals
   clear K9 kt kt7 k3 k4 k5 f3 f4 f5 l2 gl2
   have F1:=Lib.hid (FI.out ll rfl)
   clear FI
   go_wp2
   exact F1.out
end Go.Proofs.YthdohcjingfpoaaGreatDoor.Dk
namespace Go.Proofs.YthdohcjingfpoaaGreatDoor.Dk
open Go.RowKit Qu Go.Maps Zo
variable {w w' W:World}
abbrev newD (a:Int) (l:List (Int × Int)):Ds:=⟨a,l,[],0,[],[]⟩
def NwD (a:Int) (l:List (Int × Int)) (w w':World) (b:Nat):Prop:=∃ R,Dm w' b (newD a l) R∧Below w.heap.size w w'∧∀ k,Fd b R k∨R.S k→w.heap.size≤k
def NwA (a:Int) (l:List (Int × Int)) (w:World) (x:Ending) (w':World):Prop:=∃ p,x=.returned (.tuple #[.pointer p,fault (zf a l)])∧Below w.heap.size w w'∧((¬ zf a l=0∧p=none)∨(zf a l=0∧∃ b,p=some ⟨b,0,none⟩∧NwD a l w w' b))
set_option maxRecDepth 100000 in
set_option maxHeartbeats 4000000 in
theorem new_any (a:Int) (l:List (Int × Int)) (v:Value) (w:World) (hv:ZoneIn w v a l) (hl:l.length≤1000000) :
 Calls Tryz.prog 7 #[v] w (NwA a l w):=by
 have HV:=Lib.hid (fun W (q:Below w.heap.size w W)=>hv.on q)
 obtain ⟨sa,sc,rfl⟩:=hv.form
 obtain ⟨W0,hW0⟩:∃ W0,W0=w.alloc (.cells #[.int .i64 a,.slice sa l.length sc] 24):=⟨_,rfl⟩
 have b0:Below w.heap.size w W0:=by rw [hW0];exact below_alloc _ _
 have z0:W0.cell? ⟨w.heap.size,0,none⟩=some (.int .i64 a):=by rw [hW0];simp
 have z1:W0.cell? ⟨w.heap.size,1,none⟩=some (.slice sa l.length sc):=by rw [hW0];simp
 have gl:=cell_in z0
 have fz:∀ X,Below W0.heap.size W0 X→X.frozen? ⟨w.heap.size,1,none⟩=false:=fun X q=>by
  have e:X.heap[w.heap.size]?=W0.heap[w.heap.size]?:=q.block _ gl
  unfold World.frozen?
  dsimp only
  rw [e,hW0,heap_alloc_new]
  simp
 have KC:Hid (Calls Tryz.prog 27 #[.agg #[.int .i64 a,.slice sa l.length sc]] W0 fun x w'=>x=.returned (fault (zf a l))∧Below W0.heap.size W0 w'):=Lib.hid (zcheck_any a l _ W0 (HV.out W0 b0))
 have HW:=Lib.hid hW0
 by_cases hq:zf a l=0
 case neg=>
  have N1:Hid (∀ X,Below W0.heap.size W0 X→NwA a l w (.returned (.tuple #[.pointer none,fault (zf a l)])) X):=Lib.hid (fun X q=>⟨none,rfl,b0.trans (q.mono b0.size),Or.inl ⟨hq,rfl⟩⟩)
  generalize NwA a l w=PP at N1 ⊢
  rw [efault_ne hq] at KC N1
  generalize zf a l=F at KC N1
  clear hv hW0 b0 fz hq HV
  go_enter Tryz.func7,Tryz.ntmps7
  go_upto_region 1 with fail
  rw [← HW.out]
  go_wp2_with (go_at_call 27;refine KC.out.mono ?_;rintro x w1 ⟨rfl,hb⟩)
  exact N1.out w1 hb
 rw [hq,efault_0] at KC
 have KL:Hid (∀ X,Below W0.heap.size W0 X→Calls Tryz.prog 28 #[.slice sa l.length sc] X fun x w2=>∃ ua un uc,x=.returned (.slice ua un uc)∧w2.cell? ⟨w.heap.size,0,none⟩=some (.int .i64 a)∧w2.cell? ⟨w.heap.size,1,none⟩=some (.slice sa l.length sc)∧w2.frozen? ⟨w.heap.size,1,none⟩=false∧w.heap.size<w2.heap.size∧
  Hid (∀ Y,Y=w2.setCell ⟨w.heap.size,1,none⟩ (.slice ua un uc)→Y.heap.size=w2.heap.size∧Y.cell? ⟨w.heap.size,0,none⟩=some (.int .i64 a)∧Y.cell? ⟨w.heap.size,1,none⟩=some (.slice ua un uc)∧NwA a l w (.returned (.tuple #[.pointer (some ⟨Y.heap.size + 1,0,none⟩),.nilIface])) ((Y.alloc (.map #[] 0)).alloc (.cells #[.int .i64 a,.slice ua un uc,.map (some Y.heap.size),.int .i64 0,.slice none 0 0,.slice none 0 0] 82)))):=Lib.hid (fun X q=>by
  have qX:=b0.trans (q.mono b0.size)
  obtain ⟨vs,e,hN⟩:=HV.out X qX
  have e2:vs=.slice sa l.length sc:=by injection e with e;injection e with e;injection e with _ e;injection e with e;exact e.symm
  subst e2
  refine (cln_shf _ l X (nths_row hN) hl).mono (fun x w2 ⟨u,hx,ho,hb⟩=>?_)
  have hr:=own_rowK (enc:=enc2) (k:=2) (fun _=>rfl) (by decide) ho
  obtain ⟨ua,uc,hu⟩:=hr.form
  have b2:=q.trans (hb.mono q.size)
  have b2w:=b0.trans (b2.mono b0.size)
  have c0:=(b2.cell (p:=⟨w.heap.size,0,none⟩) gl).trans z0
  have c1:=(b2.cell (p:=⟨w.heap.size,1,none⟩) gl).trans z1
  subst hu
  refine ⟨ua,_,uc,hx,c0,c1,fz w2 b2,cell_in c0,Lib.hid (fun Y hY=>?_)⟩
  have sY:Y.heap.size=w2.heap.size:=by rw [hY];simp
  have y0:Y.cell? ⟨w.heap.size,0,none⟩=some (.int .i64 a):=by rw [hY];exact (World.cell?_setCell_other _ _ _ _ (fun e=>by injection e with _ e;cases e)).trans c0
  have y1:Y.cell? ⟨w.heap.size,1,none⟩=some (.slice ua l.length uc):=by rw [hY];exact World.cell?_setCell_same _ _ _ c1
  refine ⟨sY,y0,y1,?_⟩
  have bY:Below w.heap.size w Y:=by rw [hY];exact b2w.setCell (Nat.le_refl _) _
  obtain ⟨Z,hZ⟩:∃ Z,Z=(Y.alloc (.map #[] 0)).alloc (.cells #[.int .i64 a,.slice ua l.length uc,.map (some Y.heap.size),.int .i64 0,.slice none 0 0,.slice none 0 0] 82):=⟨_,rfl⟩
  have s1:(Y.alloc (.map #[] 0)).heap.size=Y.heap.size + 1:=by rw [World.size_alloc]
  have bZ:Below Y.heap.size Y Z:=by rw [hZ];exact (below_alloc Y _).alloc (by rw [s1];omega) _
  rw [← hZ]
  have box:Z.heap[Y.heap.size + 1]?=some (.cells #[.int .i64 a,.slice ua l.length uc,.map (some Y.heap.size),.int .i64 0,.slice none 0 0,.slice none 0 0] 82 (0,0)):=by
   rw [hZ,← s1]
   exact heap_alloc_new _ _
  have mp:Z.heap[Y.heap.size]?=some (.map #[] 0):=by
   rw [hZ,Below.heap_alloc _ _ _ (by rw [s1];omega)]
   exact heap_alloc_new _ _
  have xw:X.heap.size≤w2.heap.size:=hb.size
  have wX:w.heap.size<X.heap.size:=Nat.lt_of_lt_of_le gl q.size
  refine ⟨some ⟨Y.heap.size + 1,0,none⟩,by rw [hq];rfl,bY.trans (bZ.mono bY.size),Or.inr ⟨hq,_,rfl,⟨⟨.slice ua l.length uc,Y.heap.size,[],.slice none 0 0,.slice none 0 0,fun k=>X.heap.size≤k∧k<w2.heap.size⟩,?_,bY.trans (bZ.mono bY.size),fun k hk=>?_⟩⟩⟩
  ·refine ⟨box,?_,rfl,World.ownsRow_nil _ _ _ _,World.ownsRow_nil _ _ _ _,(fun g hg=>by cases hg),(fun k hk=>⟨?_,fun z=>?_⟩),?_,(fun p hp=>by cases hp)⟩
   ·have:=World.ownsMap_made (H:=Value) Y Tryz.prog 9 tokR
    obtain ⟨es,c,h1,h2⟩:=this
    have e3:=(heap_alloc_new Y (.map #[] 0)).symm.trans h1
    injection e3 with e3
    injection e3 with e3 e4
    subst e3 e4
    exact ⟨_,_,mp,h2⟩
   ·have:=bZ.size
    have:=hk.2
    omega
   ·have:=hk.2
    rcases z with z | z | z | z
    ·omega
    ·have z2:k=Y.heap.size:=z
     omega
    ·cases z
    ·cases z
   ·refine (owr_sup ho (S:=fun k=>X.heap.size≤k∧k<w2.heap.size) (fun g h1 h2=>⟨h1,h2⟩)).on (S':=fun k=>X.heap.size≤k∧k<w2.heap.size) (by have:=bZ.size;omega) (fun k hk=>?_) (fun _ h=>h) |>.imp (fun V hV=>row_nths (own_rowK (enc:=enc2) (k:=2) (fun _=>rfl) (by decide) hV))
    have e4:Z.heap[k]?=Y.heap[k]?:=bZ.block k (by have:=hk.2;omega)
    rw [e4,hY]
    exact set_other _ _ _ _ (by have:=hk.1;omega)
  ·rcases hk with (z | z | z | z) | z
   ·have:=bY.size;omega
   ·have z2:k=Y.heap.size:=z
    have:=bY.size
    omega
   ·cases z
   ·cases z
   ·have:=z.1
    omega)
 generalize NwA a l w=PP at KL ⊢
 clear hv hW0 b0 fz hq HV hl
 go_enter Tryz.func7,Tryz.ntmps7
 go_upto_region 1 with fail
 rw [← HW.out]
 go_upto_region 4 with (go_at_call 27;refine KC.out.mono ?_;rintro x w1 ⟨rfl,hb⟩)
 have K2:=Lib.hid (KL.out w1 hb)
 have y1:=(hb.cell (p:=⟨w.heap.size,1,none⟩) gl).trans z1
 have gl1:=cell_in y1
 clear KL KC hb z0 z1 gl HW
 go_upto_region 5 with (go_at_call 28;refine K2.out.mono ?_;rintro x w2 ⟨ua,un,uc,rfl,d0,d1,f1,l2,FI⟩)
 obtain ⟨sY,v0,v1,F1⟩:=FI.out _ rfl
 have F2:=Lib.hid F1
 generalize w2.setCell ⟨w.heap.size,1,none⟩ (.slice ua un uc)=Y at v0 v1 F2 ⊢
 have l3:=cell_in v0
 have MM:(Instr.makeMap 80 none).run Tryz.prog Y=.ok (.map (some Y.heap.size)) (Y.alloc (.map #[] 0)):=rfl
 clear FI F1 sY d0 d1 f1 l2 K2 y1 gl1
 go_wp2
 exact F2.out
end Go.Proofs.YthdohcjingfpoaaGreatDoor.Dk
namespace Go.Proofs.YthdohcjingfpoaaGreatDoor.Dk
open Go.RowKit Qu Go.Maps Zo
structure Gd (D:Ds):Prop where
 srt:Srt D.ev
 good:∀ e∈D.ev,evF e=0
 nev:D.ev.length≤20
 rung:Rs D.rung
 snz:Rs D.snz
 nr:D.rung.length≤400
 ns:D.snz.length≤400
 n0:0≤D.now
 n1:D.now≤157785119
 past:∀ r∈D.rung,r.1≤D.now
 later:∀ r∈D.snz,D.now<r.1
 zone:zf D.a D.l=0
 zero:D.now=0→D.rung=[]∧D.snz=[]
variable {D:Ds}
theorem Gd.name (h:Gd D):∀ e∈D.ev,e.name.size≤8:=fun e he=>(evF_lens (h.good e he)).1
theorem Gd.new {a:Int} {l:List (Int × Int)} (h:zf a l=0):Gd (newD a l):=
 ⟨List.Pairwise.nil,(fun _ h=>by cases h),Nat.zero_le _,List.Pairwise.nil,List.Pairwise.nil,Nat.zero_le _,Nat.zero_le _,Int.le_refl _,(by show (0:Int)≤157785119;decide),(fun _ h=>by cases h),(fun _ h=>by cases h),h,fun _=>⟨rfl,rfl⟩⟩
theorem put_le (M:List Rq) (r:Rq):(put M r).length≤M.length + 1:=by
 unfold put
 rw [List.length_append,List.length_cons]
 have e:∀ M:List Rq,(M.filter (fun x=>decide (oc x r<0))).length + (M.filter (fun x=>decide (0<oc x r))).length≤M.length:=by
  intro M
  induction M with
  | nil=>simp
  | cons x M ih=>
    rw [List.filter_cons,List.filter_cons]
    by_cases c1:oc x r<0
    ·have c2:¬ 0<oc x r:=by omega
     simp [c1,c2];omega
    ·by_cases c2:0<oc x r
     ·simp [c1,c2];omega
     ·simp [c1,c2];omega
 have:=e M
 omega
theorem own_good {e:Evt} (h:evF e=0):evF (ownE e)=0:=by
 have tx:txB (⟨#[]⟩:ByteArray)=true:=by rfl
 unfold evF at h
 have hh:(nmB e.name && txB e.text)=true:=by
  rcases hq:(nmB e.name && txB e.text) with _ | _
  ·rw [hq] at h;simp at h
  ·rfl
 have hn:nmB e.name=true:=by
  rw [Bool.and_eq_true] at hh
  exact hh.1
 rw [hh] at h
 unfold evF
 have e1:(nmB (ownE e).name && txB (ownE e).text)=true:=by
  show (nmB e.name && txB (⟨#[]⟩:ByteArray))=true
  rw [hn,tx]
  rfl
 rw [e1]
 exact h
theorem out_lt {nm:ByteArray}:∀ {l:List Evt},hasE nm l=true→(outE id nm l).length<l.length
 | [],h=>by simp [hasE] at h
 | x :: l,h=>by
   unfold outE
   rw [List.filter_cons]
   by_cases q:x.name=nm
   ·have:(List.filter (fun p=>!decide ((id p).name=nm)) l).length≤l.length:=List.length_filter_le _ _
    simp only [id,q,decide_true,Bool.not_true,Bool.false_eq_true,if_false,List.length_cons]
    exact Nat.lt_succ_of_le this
   ·have hh:hasE nm l=true:=by
     unfold hasE at h ⊢
     rw [List.any_cons] at h
     simpa [q] using h
    have ih:=out_lt hh
    unfold outE at ih
    simp only [id,q,decide_false,Bool.not_false,if_true,List.length_cons]
    exact Nat.succ_lt_succ ih
theorem Gd.forget (h:Gd D) (nm:ByteArray):Gd (D.forget nm):=
 ⟨h.srt,h.good,h.nev,List.Pairwise.sublist List.filter_sublist h.rung,List.Pairwise.sublist List.filter_sublist h.snz,Nat.le_trans (List.length_filter_le _ _) h.nr,Nat.le_trans (List.length_filter_le _ _) h.ns,h.n0,h.n1,fun r hr=>h.past r (List.mem_filter.1 hr).1,fun r hr=>h.later r (List.mem_filter.1 hr).1,h.zone,fun z=>⟨by show D.rung.filter _=[];rw [(h.zero z).1];rfl,by show D.snz.filter _=[];rw [(h.zero z).2];rfl⟩⟩
theorem Gd.put (h:Gd D) (e:Evt):Gd (D.put e):=by
 unfold Ds.put
 split
 ·rename_i q
  unfold putF at q
  split at q
  ·rename_i hf
   have f:=h.forget e.name
   refine ⟨insE_srt (outE_srt h.srt) (fun p hp=>?_),fun p hp=>?_,?_,f.rung,f.snz,f.nr,f.ns,f.n0,f.n1,f.past,f.later,f.zone,f.zero⟩
   ·exact (outE_mem.1 hp).2
   ·rcases (insE_mem id _ p _).1 hp with z | z
    ·rw [z];exact own_good hf
    ·exact h.good p (outE_mem.1 z).1
   ·show (insE id (ownE e) (outE id e.name D.ev)).length≤20
    rw [insE_len]
    have hl:=h.nev
    have ho:(outE id e.name D.ev).length≤D.ev.length:=List.length_filter_le _ _
    rcases hq:hasE e.name D.ev with _ | _
    ·have:¬ 20≤D.ev.length:=fun k=>by rw [if_pos ⟨hq,k⟩] at q;cases q
     omega
    ·have:=out_lt hq
     omega
  ·rename_i hf
   exact absurd q hf
 ·exact h
theorem Gd.dropd (h:Gd D) (nm:ByteArray):Gd (D.drop nm):=by
 have f:=h.forget nm
 exact ⟨outE_srt h.srt,fun p hp=>h.good p (outE_mem.1 hp).1,Nat.le_trans (List.length_filter_le _ _) h.nev,f.rung,f.snz,f.nr,f.ns,f.n0,f.n1,f.past,f.later,f.zone,f.zero⟩
theorem Gd.don (h:Gd D) (r:Rq):Gd (D.don r):=
 ⟨h.srt,h.good,h.nev,drp_rs h.rung,h.snz,Nat.le_trans (List.length_filter_le _ _) h.nr,h.ns,h.n0,h.n1,fun x hx=>h.past x (drp_mem.1 hx).1,h.later,h.zone,fun z=>⟨by show drp D.rung r=[];rw [(h.zero z).1];rfl,(h.zero z).2⟩⟩
theorem Gd.snooze (h:Gd D) (r:Rq) (n:Int):Gd (D.snooze r n):=by
 unfold Ds.snooze
 split
 ·rename_i q
  unfold snzF at q
  split at q
  ·cases q
  rename_i k1
  split at q
  ·cases q
  rename_i k2
  split at q
  ·cases q
  rename_i k3
  split at q
  ·cases q
  rename_i k4
  have k3':hasQ D.snz (ltr D r n)=false:=by
   rcases hq:hasQ D.snz (ltr D r n) with _ | _
   ·rfl
   ·exact absurd hq k3
  refine ⟨h.srt,h.good,h.nev,drp_rs h.rung,put_rs h.snz,Nat.le_trans (List.length_filter_le _ _) h.nr,?_,h.n0,h.n1,fun x hx=>h.past x (drp_mem.1 hx).1,fun x hx=>?_,h.zone,fun z=>absurd ?_ k2⟩
  ·have:=put_le D.snz (ltr D r n)
   show (Qu.put D.snz (ltr D r n)).length≤400
   omega
  ·rcases (put_mem (hasQ_not.1 k3')).1 hx with z | z
   ·exact h.later x z
   ·have:¬ n<1:=fun z=>k1 (Or.inl z)
    rw [z]
    show D.now<D.now + n
    omega
  ·rw [(h.zero z).1];rfl
 ·exact h
theorem rgR_mem {t:Int} {e:Evt} {z:Rq} (hz:z∈rgR D t e):D.now<z.1∧z.1≤t∧z.2.1=e.name:=by
 unfold rgR at hz
 obtain ⟨x,hx,rfl⟩:=List.mem_map.1 hz
 unfold tlL at hx
 split at hx
 ·rename_i ht
  obtain ⟨g1,_⟩:=tc_good ht
  obtain ⟨g2,g3⟩:=ez_good g1
  unfold waL at hx
  split at hx
  ·obtain ⟨_,_,_,h1,h2⟩:=(rgS_mem g2 g3).1 hx
   refine ⟨?_,?_,rfl⟩
   ·show D.now<x.1;omega
   ·show x.1≤t;omega
  ·cases hx
 ·cases hx
theorem duG_mem {t:Int} {k:Nat} {z:Rq}:z∈duG D t k↔z∈dueQ D.snz t∨∃ e∈D.ev.take k,z∈rgR D t e:=by
 unfold duG
 rw [List.mem_append,List.mem_flatMap]
theorem duL_mem {t:Int} (h:duF D t=0) {z:Rq}:z∈duL D t↔z∈dueQ D.snz t∨∃ e∈D.ev,z∈rgR D t e:=by
 unfold duL
 rw [if_pos h,srtQ_mem,duG_mem,List.take_length]
theorem duL_rs (D:Ds) (t:Int):Rs (duL D t):=by
 unfold duL
 split
 ·exact srtQ_rs _
 ·exact List.Pairwise.nil
theorem duL_at (h:Gd D) {t:Int} {z:Rq} (hz:z∈duL D t):D.now<z.1∧z.1≤t:=by
 unfold duL at hz
 split at hz
 ·rcases duG_mem.1 (srtQ_mem.1 hz) with q | ⟨e,_,q⟩
  ·exact ⟨h.later z (dueQ_mem.1 q).1,(dueQ_mem.1 q).2⟩
  ·exact ⟨(rgR_mem q).1,(rgR_mem q).2.1⟩
 ·cases hz
theorem ticF_zero {t:Int} (h:ticF D t=0):tkF D.now t=0∧(D.now=0∨(¬ D.now=0∧duF D t=0∧D.rung.length + (duL D t).length≤400)):=by
 unfold ticF at h
 split at h
 ·rename_i q
  refine ⟨q,?_⟩
  split at h
  ·rename_i k;exact Or.inl k
  ·rename_i k
   split at h
   ·rename_i u
    split at h
    ·cases h
    ·rename_i v
     exact Or.inr ⟨k,u,by omega⟩
   ·rename_i u;exact absurd h u
 ·rename_i q;exact absurd h q
theorem Gd.tick (h:Gd D) (t:Int):Gd (D.tick t):=by
 unfold Ds.tick
 split
 ·rename_i q
  obtain ⟨q1,q2⟩:=ticF_zero q
  obtain ⟨t1,t2,_⟩:=tkF_zero.1 q1
  have t3:=ist_iff.1 t1
  split
  ·rename_i z
   refine ⟨h.srt,h.good,h.nev,h.rung,h.snz,h.nr,h.ns,?_,t3.2,fun r hr=>?_,fun r hr=>?_,h.zone,fun y=>?_⟩
   ·show 0≤t;omega
   ·have:=h.past r hr;show r.1≤t;omega
   ·have hr':r∈D.snz:=hr
    rw [(h.zero z).2] at hr'
    cases hr'
   ·have y':t=0:=y
    omega
  ·rename_i z
   rcases q2 with q2 | ⟨_,u,v⟩
   ·exact absurd q2 z
   refine ⟨h.srt,h.good,h.nev,?_,laterQ_rs h.snz,?_,Nat.le_trans (List.length_filter_le _ _) h.ns,?_,t3.2,fun r hr=>?_,fun r hr=>(laterQ_mem.1 hr).2,h.zone,fun y=>?_⟩
   ·refine List.pairwise_append.2 ⟨h.rung,duL_rs D t,fun x hx y hy=>oc_at ?_⟩
    have:=h.past x hx
    have:=(duL_at h hy).1
    omega
   ·show (D.rung++duL D t).length≤400
    rw [List.length_append];exact v
   ·show 0≤t;omega
   ·rcases List.mem_append.1 hr with y | y
    ·have:=h.past r y;show r.1≤t;omega
    ·exact (duL_at h y).2
   ·have y':t=0:=y
    omega
 ·exact h
end Go.Proofs.YthdohcjingfpoaaGreatDoor.Dk
