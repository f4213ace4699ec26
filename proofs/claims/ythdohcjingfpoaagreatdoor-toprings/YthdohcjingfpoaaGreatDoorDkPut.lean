/-
  What is proved here: what (*desk.Desk).put answers (a contract over the translation).
-/
import Derived.Test.YthdohcjingfpoaaGreatDoorKE
import Derived.Test.YthdohcjingfpoaaGreatDoorBO
import Derived.Deep.RegionHeld3
namespace Go.Proofs.YthdohcjingfpoaaGreatDoor.Dk
open Go.RowKit Qu Go.Maps
variable {w w' W:World} {b:Nat} {D:Ds} {R:Raw}
theorem evF_lens {e:Evt} (h:evF e=0):e.name.size≤8∧e.rule.months.length≤1000000∧e.rule.days.length≤1000000∧e.rule.weeks.length≤1000000∧e.rule.pick.length≤1000000∧e.more.length≤1000000∧e.nots.length≤1000000∧e.chg.length≤1000000∧e.alm.length≤1000000:=by
 unfold evF at h
 split at h
 ·cases h
 rename_i q1
 split at h
 ·cases h
 split at h
 ·rename_i q;exact absurd h q
 rename_i q3
 split at h
 ·rename_i q;exact absurd h q
 rename_i q4
 have hn:e.name.size≤8:=by
  rcases hq:nmB e.name with _ | _
  ·rw [hq] at q1;simp at q1
  ·unfold nmB at hq
   simp at hq
   exact hq.1.2
 have hr:e.rule.months.length≤1000000∧e.rule.days.length≤1000000∧e.rule.weeks.length≤1000000∧e.rule.pick.length≤1000000:=by
  have q3':ruF e=0:=Classical.byContradiction q3
  unfold ruF at q3'
  split at q3'
  ·unfold rf at q3'
   split at q3'
   ·cases q3'
   split at q3'
   ·cases q3'
   split at q3'
   ·cases q3'
   rename_i k
   have k2:ok2 e.rule=true:=by
    rcases hk:ok2 e.rule with _ | _
    ·exact absurd hk k
    ·rfl
   unfold ok2 at k2
   simp at k2
   omega
  ·split at q3'
   ·rename_i k
    unfold emB at k
    obtain ⟨_,k1,k2,k3,k4⟩:=of_decide_eq_true k
    omega
   ·cases q3'
 have hl:¬ (100<e.more.length∨100<e.nots.length∨100<e.chg.length∨4<e.alm.length):=by
  have q4':liF e=0:=Classical.byContradiction q4
  unfold liF at q4'
  split at q4'
  ·cases q4'
  ·rename_i k
   unfold full at k
   simpa using k
 omega
theorem fault_not {k:Int} (h:¬ k=0):fault k=.iface 86 (.int .i64 k):=by unfold fault;rw [if_neg h]
def putF (D:Ds) (e:Evt):Int:=if evF e=0 then (if hasE e.name D.ev=false∧20≤D.ev.length then 4 else 0) else evF e
def Ds.put (D:Ds) (e:Evt):Ds:=if putF D e=0 then { D.forget e.name with ev:=insE id (ownE e) (outE id e.name D.ev) } else D
set_option maxRecDepth 100000 in
set_option maxHeartbeats 4000000 in
theorem dput_any (e:Evt) (s:Evs) {S0:Nat→Prop} (h:Dm w b D R) (hv:Sup S0 w (fun X=>EvB X e s)) (hS:∀ k,S0 k→k<w.heap.size∧¬ Fd b R k) (h1:D.rung.length≤1000000) (h2:D.snz.length≤1000000) (h3:D.ev.length≤1000000) :
 Calls Tryz.prog 29 #[.pointer (some ⟨b,0,none⟩),.agg (ecells e s)] w (DoA (putF D e) (D.put e) b R w):=by
 obtain ⟨W0,hW0⟩:∃ W0,W0=w.alloc (.cells (ecells e s) 40):=⟨_,rfl⟩
 have b0:Below w.heap.size w W0:=by rw [hW0];exact below_alloc _ _
 have x0:EBox W0 w.heap.size e s:=by rw [hW0];exact EBox.new w e s _
 have bl:b<w.heap.size:=h.lt
 have z0:=x0.lt
 have HD:Hid (∀ X,Below W0.heap.size W0 X→Dm X b D R∧Kd b R R w X):=Lib.hid (fun X q=>⟨(h.onB b0).onB q,(Kd.of_below b R b0).trans (Kd.of_below b R q)⟩)
 have SAME:Hid (∀ k,putF D e=k→¬ k=0→∀ X,Below W0.heap.size W0 X→DoA (putF D e) (D.put e) b R w (.returned (fault k)) X):=Lib.hid (fun k hk hn X q=>by
  subst hk
  refine ⟨rfl,R,?_,(HD.out X q).2⟩
  unfold Ds.put
  rw [if_neg hn]
  exact (HD.out X q).1)
 have KC:Hid (Calls Tryz.prog 62 #[.agg (ecells e s)] W0 fun x w'=>x=.returned (fault (evF e))∧Below W0.heap.size W0 w'):=Lib.hid (echeck_any e s W0 (hv W0 b0.size (fun k hk=>b0.block k (hS k hk).1)))
 have HW:=Lib.hid hW0
 have X0:=Lib.hid x0
 by_cases hf:evF e=0
 case neg=>
  have N1:=Lib.hid (SAME.out (evF e) (by unfold putF;rw [if_neg hf]) hf)
  have FS:=Lib.hid (fault_not hf)
  generalize DoA (putF D e) (D.put e) b R w=PP at N1 ⊢
  generalize evF e=F at N1 KC FS
  clear h hv hS h1 h2 h3 hW0 b0 x0 HD SAME hf
  go_enter Tryz.func29,Tryz.ntmps29
  go_upto_region 1 with fail
  rw [← HW.out]
  go_wp2_with (first
   | (refine ev_load ?h1 (.tmp 3) ?h2 w.heap.size e s ?h3 X0.out ?h4;(case h1=>rfl);(case h2=>rfl);(case h3=>rfl))
   | (go_at_call 62;refine KC.out.mono ?_;rintro x w1 ⟨rfl,hb⟩;have HB:=Lib.hid hb;clear hb;rw [FS.out]))
  have N2:=N1.out _ HB.out
  rw [FS.out] at N2
  exact N2
 obtain ⟨ln,L1,L2,L3,L4,L5,L6,L7,L8⟩:=evF_lens hf
 have hn:e.name.size≤maxLen:=by unfold maxLen;omega
 have hkey:=key_nk hn
 have eF:fault (evF e)=.nilIface:=by rw [hf];rfl
 rw [eF] at KC
 have KH:Hid (∀ X,Below W0.heap.size W0 X→Calls Tryz.prog 63 #[.pointer (some ⟨b,0,none⟩),.string e.name] X fun x w'=>x=.returned (.bool (hasE e.name D.ev))∧Below W0.heap.size W0 w'):=Lib.hid (fun X q=>
  (dhas_any e.name hn (HD.out X q).1).mono (fun x w' ⟨a,c⟩=>⟨a,q.trans (c.mono q.size)⟩))
 have KM:Hid (∀ X,Below W0.heap.size W0 X→X.cell? ⟨b,2,none⟩=some (.map (some R.bm))∧(Builtin.len_ #[80] 3 #[.map (some R.bm)]).run Tryz.prog X=.ok (.int .i64 D.ev.length) X):=Lib.hid (fun X q=>by
  have hd:=(HD.out X q).1
  refine ⟨hd.cells.2.2.1,?_⟩
  have:=hd.map.len (t:=80) Tryz.underlying80 3
  rw [evD_size] at this
  rw [this,← hd.le,List.length_map])
 have FIN:Hid (¬ (hasE e.name D.ev=false∧20≤D.ev.length)→∀ X,Below W0.heap.size W0 X→Calls Tryz.prog 64 #[.pointer (some ⟨b,0,none⟩),.string e.name] X fun x w3=>x=.returned (.tuple #[])∧∃ bm,b<w3.heap.size∧w3.cell? ⟨b,2,none⟩=some (.map (some bm))∧EBox w3 w.heap.size e s∧
  Hid (Calls Tryz.prog 65 #[.agg (ecells e s)] w3.drew fun x w4=>∃ s4 w5,x=.returned (.agg (ecells (ownE e) s4))∧Hid ((fun X:World=>X.cell? ⟨b,2,none⟩=some (.map (some bm))∧((X.cell? ⟨w.heap.size,0,none⟩=some (.string e.name)∧X.cell? ⟨w.heap.size,1,none⟩=some (.string e.text)∧X.cell? ⟨w.heap.size,2,none⟩=some (.int .i64 e.start)∧X.cell? ⟨w.heap.size,3,none⟩=some (.int .i64 e.len)∧X.cell? ⟨w.heap.size,4,none⟩=some (.bool e.rep))∧(X.cell? ⟨w.heap.size,5,none⟩=some (.int .i64 e.rule.freq)∧X.cell? ⟨w.heap.size,6,none⟩=some (.int .i64 e.rule.every)∧X.cell? ⟨w.heap.size,7,none⟩=some (.int .i64 e.rule.count)∧X.cell? ⟨w.heap.size,8,none⟩=some (.int .i64 e.rule.till)∧X.cell? ⟨w.heap.size,9,none⟩=some (s.vm)∧X.cell? ⟨w.heap.size,10,none⟩=some (s.vd)∧X.cell? ⟨w.heap.size,11,none⟩=some (s.vw)∧X.cell? ⟨w.heap.size,12,none⟩=some (s.vp))∧X.cell? ⟨w.heap.size,13,none⟩=some (s.vo)∧X.cell? ⟨w.heap.size,14,none⟩=some (s.vn)∧X.cell? ⟨w.heap.size,15,none⟩=some (s.vc)∧X.cell? ⟨w.heap.size,16,none⟩=some (s.va))) w4)∧Hid ((fun X:World=>X.cell? ⟨b,2,none⟩=some (.map (some bm))∧((X.cell? ⟨w.heap.size,0,none⟩=some (.string e.name)∧X.cell? ⟨w.heap.size,1,none⟩=some (.string e.text)∧X.cell? ⟨w.heap.size,2,none⟩=some (.int .i64 e.start)∧X.cell? ⟨w.heap.size,3,none⟩=some (.int .i64 e.len)∧X.cell? ⟨w.heap.size,4,none⟩=some (.bool e.rep))∧(X.cell? ⟨w.heap.size,5,none⟩=some (.int .i64 e.rule.freq)∧X.cell? ⟨w.heap.size,6,none⟩=some (.int .i64 e.rule.every)∧X.cell? ⟨w.heap.size,7,none⟩=some (.int .i64 e.rule.count)∧X.cell? ⟨w.heap.size,8,none⟩=some (.int .i64 e.rule.till)∧X.cell? ⟨w.heap.size,9,none⟩=some (s.vm)∧X.cell? ⟨w.heap.size,10,none⟩=some (s.vd)∧X.cell? ⟨w.heap.size,11,none⟩=some (s.vw)∧X.cell? ⟨w.heap.size,12,none⟩=some (s.vp))∧X.cell? ⟨w.heap.size,13,none⟩=some (s.vo)∧X.cell? ⟨w.heap.size,14,none⟩=some (s.vn)∧X.cell? ⟨w.heap.size,15,none⟩=some (s.vc)∧X.cell? ⟨w.heap.size,16,none⟩=some (s.va))) w5)∧
   (Instr.mapUpdate 80 (.map (some bm)) (.string e.name) (.agg (ecells (ownE e) s4))).run Tryz.prog w4=.ok () w5∧Hid (DoA (putF D e) (D.put e) b R w (.returned .nilIface) w5))):=Lib.hid (fun hq X q=>by
  have eP:putF D e=0:=by unfold putF;rw [if_pos hf,if_neg hq]
  obtain ⟨dX,kX⟩:=HD.out X q
  refine (forget_any e.name dX h1 h2).mono (fun x w3 ⟨he,R3,d3,k3,q1,q2,q3⟩=>⟨he,R3.bm,d3.lt,d3.cells.2.2.1,?_,?_⟩)
  ·have y0:=x0.on q
   have eb:w3.heap[w.heap.size]?=X.heap[w.heap.size]?:=k3.block _ y0.lt (fun z=>by
    have:=h.flt z
    omega)
   exact EBox.of_range (fun j v hv=>(World.cell?_of_block eb).trans (y0.range j v hv))
  ·have l0:w.heap.size≤w3.heap.size:=Nat.le_trans (Nat.le_trans b0.size q.size) k3.size
   have hv3:EvB w3.drew e s:=hv _ l0 (fun k hk=>(k3.block k (Nat.lt_of_lt_of_le (hS k hk).1 (Nat.le_trans b0.size q.size)) (hS k hk).2).trans ((q.block k (Nat.lt_of_lt_of_le (hS k hk).1 b0.size)).trans (b0.block k (hS k hk).1)))
   have bd:Below w3.heap.size w3 w3.drew:=Below.drew (Below.refl _ _)
   have y3:EBox w3 w.heap.size e s:=by
    have y0:=x0.on q
    have eb:w3.heap[w.heap.size]?=X.heap[w.heap.size]?:=k3.block _ y0.lt (fun z=>by
     have:=h.flt z
     omega)
    exact EBox.of_range (fun j v hv=>(World.cell?_of_block eb).trans (y0.range j v hv))
   refine Lib.hid ((own_any e s w3.drew hv3 ⟨L1,L2,L3,L4,L5,L6,L7,L8⟩).mono (fun x w4 ⟨s4,hx,hb,hsu⟩=>?_))
   have hb':Below w3.heap.size w3 w4:=bd.trans hb
   have d4:=d3.onB hb'
   have hm:=d4.map
   obtain ⟨w5,hrun,hm5,hg5⟩:=hm.update law Tryz.underlying80 (by rw [q1];have:=congrArg List.length h.le;rw [List.length_map] at this;unfold maxLen;omega) (key:=.string e.name) (val:=.agg (ecells (ownE e) s4)) (d:=.held (evV (ownE e,s4))) (ps:=[]) hkey rfl
   have y4:=y3.on hb'
   have y5:EBox w5 w.heap.size e s:=by
    have eb:w5.heap[w.heap.size]?=w4.heap[w.heap.size]?:=hg5.block _ y4.lt (fun z=>by
     injection z with z
     have:=h.flt (g:=w.heap.size) (Or.inr (Or.inl (by rw [z,q2])))
     omega)
    exact EBox.of_range (fun j v hv=>(World.cell?_of_block eb).trans (y4.range j v hv))
   have c5:w5.cell? ⟨b,2,none⟩=some (.map (some R3.bm)):=(World.cell?_of_block (a:=⟨b,2,none⟩) (hg5.block _ d4.lt (fun z=>by injection z with z;exact d4.ne_map z.symm))).trans d4.cells.2.2.1
   refine ⟨s4,w5,hx,Lib.hid ⟨d4.cells.2.2.1,y4⟩,Lib.hid ⟨c5,y5⟩,hrun,Lib.hid ⟨by rw [eP];rfl,?_⟩⟩
   rw [show e.name=((ownE e,s4):Ev).1.name from rfl,evD_put] at hm5
   have hev:(insE Prod.fst ((ownE e,s4):Ev) (outE Prod.fst ((ownE e,s4):Ev).1.name R3.le)).map Prod.fst=insE id (ownE e) (outE id e.name D.ev):=by
    rw [insE_map,outE_map,d3.le]
    rfl
   have dp:=d4.putM (S':=fun k=>R3.S k∨Sx w3.heap.size w4 k) hg5 hm5 hev (fun k hk=>Or.inl hk) (fun k hk=>by
    rcases hk with z | z
    ·exact d4.sin k z
    ·refine ⟨z.2,fun y=>?_⟩
     have:=d3.flt y
     have:=z.1
     omega) (fun p hp=>by
    rcases (insE_mem Prod.fst _ p _).1 hp with z | z
    ·subst z
     exact Or.inr (hsu.on (Nat.le_refl _) (fun _ _=>rfl) (fun k hk=>Or.inr hk))
    ·exact Or.inl (outE_mem.1 z).1)
   have kp:=Kd.putM (le':=insE Prod.fst ((ownE e,s4):Ev) (outE Prod.fst ((ownE e,s4):Ev).1.name R3.le)) (S':=fun k=>R3.S k∨Sx w3.heap.size w4 k) ((kX.trans k3).trans (Kd.of_below b R3 hb')) hg5 (fun k hk=>by
    rcases hk with z | z
    ·rw [q3] at z
     exact Or.inl (Or.inr z)
    ·exact Or.inr (Nat.le_trans l0 z.1))
   refine ⟨_,?_,kp⟩
   unfold Ds.put
   rw [if_pos eP]
   exact dp)
 have C4:Hid (hasE e.name D.ev=false→20≤D.ev.length→putF D e=4):=Lib.hid (fun a c=>by unfold putF;rw [if_pos hf,if_pos ⟨a,c⟩])
 generalize DoA (putF D e) (D.put e) b R w=PP at SAME FIN ⊢
 generalize putF D e=PF at SAME C4
 generalize D.ev.length=lE at KM FIN C4
 generalize hasE e.name D.ev=hE at KH FIN C4
 clear h hv hS h1 h2 h3 hW0 b0 x0 HD hf ln L1 L2 L3 L4 L5 L6 L7 L8 hn hkey eF
 go_enter Tryz.func29,Tryz.ntmps29
 go_upto_region 1 with fail
 rw [← HW.out]
 go_upto_region 4 with (first
  | (refine ev_load ?j1 (.tmp 3) ?j2 w.heap.size e s ?j3 X0.out ?j4;(case j1=>rfl);(case j2=>rfl);(case j3=>rfl))
  | (go_at_call 62;refine KC.out.mono ?_;rintro x w1 ⟨rfl,hb⟩;have HB:=Lib.hid hb;clear hb))
 have x1:=(X0.out.on HB.out).1.1
 have z1:=Nat.lt_of_lt_of_le z0 HB.out.size
 rcases hE with _ | _
 ·by_cases hk:20≤lE
  ·have hk2:(20:Int)≤(lE:Int):=by omega
   have N1:=Lib.hid (SAME.out 4 (C4.out rfl hk) (by decide))
   clear SAME C4 FIN X0
   go_wp2_with (go_at_call 63;refine (KH.out w1 HB.out).mono ?_;rintro x w2 ⟨rfl,hb2⟩;obtain ⟨c2,LN⟩:=KM.out w2 hb2)
   exact N1.out w2 hb2
  ·have hk2:¬ (20:Int)≤(lE:Int):=by omega
   have F1:=Lib.hid (FIN.out (fun q=>hk q.2))
   go_upto_region 6 with (go_at_call 63;refine (KH.out w1 HB.out).mono ?_;rintro x w2 ⟨rfl,hb2⟩;obtain ⟨c2,LN⟩:=KM.out w2 hb2)
   have y2:=(X0.out.on hb2).1.1
   have y3:=(X0.out.on hb2).lt
   clear LN c2 FIN
   clear KH KM SAME C4 x1 z1 X0 z0
   obtain ⟨x0,z0⟩:w2.cell? ⟨w.heap.size,0,none⟩=some (.string e.name)∧w.heap.size<w2.heap.size:=⟨y2,y3⟩
   go_upto_region 7 with (go_at_call 64;refine (F1.out w2 hb2).mono ?_;rintro x w3 ⟨rfl,bm,l3,c3,e3,KO⟩)
   have SD:Hid ((fun X:World=>X.cell? ⟨b,2,none⟩=some (.map (some bm))∧((X.cell? ⟨w.heap.size,0,none⟩=some (.string e.name)∧X.cell? ⟨w.heap.size,1,none⟩=some (.string e.text)∧X.cell? ⟨w.heap.size,2,none⟩=some (.int .i64 e.start)∧X.cell? ⟨w.heap.size,3,none⟩=some (.int .i64 e.len)∧X.cell? ⟨w.heap.size,4,none⟩=some (.bool e.rep))∧(X.cell? ⟨w.heap.size,5,none⟩=some (.int .i64 e.rule.freq)∧X.cell? ⟨w.heap.size,6,none⟩=some (.int .i64 e.rule.every)∧X.cell? ⟨w.heap.size,7,none⟩=some (.int .i64 e.rule.count)∧X.cell? ⟨w.heap.size,8,none⟩=some (.int .i64 e.rule.till)∧X.cell? ⟨w.heap.size,9,none⟩=some (s.vm)∧X.cell? ⟨w.heap.size,10,none⟩=some (s.vd)∧X.cell? ⟨w.heap.size,11,none⟩=some (s.vw)∧X.cell? ⟨w.heap.size,12,none⟩=some (s.vp))∧X.cell? ⟨w.heap.size,13,none⟩=some (s.vo)∧X.cell? ⟨w.heap.size,14,none⟩=some (s.vn)∧X.cell? ⟨w.heap.size,15,none⟩=some (s.vc)∧X.cell? ⟨w.heap.size,16,none⟩=some (s.va))) w3.drew):=Lib.hid ⟨c3,e3⟩
   have K3:=Lib.hid KO
   clear KO x0 z0 y2 y3 F1 hb2 e3
   go_region_held3 (fun X:World=>X.cell? ⟨b,2,none⟩=some (.map (some bm))∧((X.cell? ⟨w.heap.size,0,none⟩=some (.string e.name)∧X.cell? ⟨w.heap.size,1,none⟩=some (.string e.text)∧X.cell? ⟨w.heap.size,2,none⟩=some (.int .i64 e.start)∧X.cell? ⟨w.heap.size,3,none⟩=some (.int .i64 e.len)∧X.cell? ⟨w.heap.size,4,none⟩=some (.bool e.rep))∧(X.cell? ⟨w.heap.size,5,none⟩=some (.int .i64 e.rule.freq)∧X.cell? ⟨w.heap.size,6,none⟩=some (.int .i64 e.rule.every)∧X.cell? ⟨w.heap.size,7,none⟩=some (.int .i64 e.rule.count)∧X.cell? ⟨w.heap.size,8,none⟩=some (.int .i64 e.rule.till)∧X.cell? ⟨w.heap.size,9,none⟩=some (s.vm)∧X.cell? ⟨w.heap.size,10,none⟩=some (s.vd)∧X.cell? ⟨w.heap.size,11,none⟩=some (s.vw)∧X.cell? ⟨w.heap.size,12,none⟩=some (s.vp))∧X.cell? ⟨w.heap.size,13,none⟩=some (s.vo)∧X.cell? ⟨w.heap.size,14,none⟩=some (s.vn)∧X.cell? ⟨w.heap.size,15,none⟩=some (s.vc)∧X.cell? ⟨w.heap.size,16,none⟩=some (s.va)))
    (first | exact SD.out | exact S4.out | exact S5.out)
    (first | (go_at_call 65;refine K3.out.out.mono ?_;rintro x w4 ⟨s4,w5,rfl,S4,S5,MU,FI⟩))
   go_wp2
   exact FI.out
 ·have F1:=Lib.hid (FIN.out (fun q=>by cases q.1))
  go_upto_region 6 with (go_at_call 63;refine (KH.out w1 HB.out).mono ?_;rintro x w2 ⟨rfl,hb2⟩)
  have y2:=(X0.out.on hb2).1.1
  have y3:=(X0.out.on hb2).lt
  clear FIN
  clear KH KM SAME C4 x1 z1 X0 z0
  obtain ⟨x0,z0⟩:w2.cell? ⟨w.heap.size,0,none⟩=some (.string e.name)∧w.heap.size<w2.heap.size:=⟨y2,y3⟩
  go_upto_region 7 with (go_at_call 64;refine (F1.out w2 hb2).mono ?_;rintro x w3 ⟨rfl,bm,l3,c3,e3,KO⟩)
  have SD:Hid ((fun X:World=>X.cell? ⟨b,2,none⟩=some (.map (some bm))∧((X.cell? ⟨w.heap.size,0,none⟩=some (.string e.name)∧X.cell? ⟨w.heap.size,1,none⟩=some (.string e.text)∧X.cell? ⟨w.heap.size,2,none⟩=some (.int .i64 e.start)∧X.cell? ⟨w.heap.size,3,none⟩=some (.int .i64 e.len)∧X.cell? ⟨w.heap.size,4,none⟩=some (.bool e.rep))∧(X.cell? ⟨w.heap.size,5,none⟩=some (.int .i64 e.rule.freq)∧X.cell? ⟨w.heap.size,6,none⟩=some (.int .i64 e.rule.every)∧X.cell? ⟨w.heap.size,7,none⟩=some (.int .i64 e.rule.count)∧X.cell? ⟨w.heap.size,8,none⟩=some (.int .i64 e.rule.till)∧X.cell? ⟨w.heap.size,9,none⟩=some (s.vm)∧X.cell? ⟨w.heap.size,10,none⟩=some (s.vd)∧X.cell? ⟨w.heap.size,11,none⟩=some (s.vw)∧X.cell? ⟨w.heap.size,12,none⟩=some (s.vp))∧X.cell? ⟨w.heap.size,13,none⟩=some (s.vo)∧X.cell? ⟨w.heap.size,14,none⟩=some (s.vn)∧X.cell? ⟨w.heap.size,15,none⟩=some (s.vc)∧X.cell? ⟨w.heap.size,16,none⟩=some (s.va))) w3.drew):=Lib.hid ⟨c3,e3⟩
  have K3:=Lib.hid KO
  clear KO x0 z0 y2 y3 F1 hb2 e3
  go_region_held3 (fun X:World=>X.cell? ⟨b,2,none⟩=some (.map (some bm))∧((X.cell? ⟨w.heap.size,0,none⟩=some (.string e.name)∧X.cell? ⟨w.heap.size,1,none⟩=some (.string e.text)∧X.cell? ⟨w.heap.size,2,none⟩=some (.int .i64 e.start)∧X.cell? ⟨w.heap.size,3,none⟩=some (.int .i64 e.len)∧X.cell? ⟨w.heap.size,4,none⟩=some (.bool e.rep))∧(X.cell? ⟨w.heap.size,5,none⟩=some (.int .i64 e.rule.freq)∧X.cell? ⟨w.heap.size,6,none⟩=some (.int .i64 e.rule.every)∧X.cell? ⟨w.heap.size,7,none⟩=some (.int .i64 e.rule.count)∧X.cell? ⟨w.heap.size,8,none⟩=some (.int .i64 e.rule.till)∧X.cell? ⟨w.heap.size,9,none⟩=some (s.vm)∧X.cell? ⟨w.heap.size,10,none⟩=some (s.vd)∧X.cell? ⟨w.heap.size,11,none⟩=some (s.vw)∧X.cell? ⟨w.heap.size,12,none⟩=some (s.vp))∧X.cell? ⟨w.heap.size,13,none⟩=some (s.vo)∧X.cell? ⟨w.heap.size,14,none⟩=some (s.vn)∧X.cell? ⟨w.heap.size,15,none⟩=some (s.vc)∧X.cell? ⟨w.heap.size,16,none⟩=some (s.va)))
   (first | exact SD.out | exact S4.out | exact S5.out)
   (first | (go_at_call 65;refine K3.out.out.mono ?_;rintro x w4 ⟨s4,w5,rfl,S4,S5,MU,FI⟩))
  go_wp2
  exact FI.out
end Go.Proofs.YthdohcjingfpoaaGreatDoor.Dk
