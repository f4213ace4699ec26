/-
  Texts of our own that serve the card of this claim, joined into one.
-/
import Derived.Test.YtcadomjkjoiakaaGreatDoorQP
import Derived.Test.YtcadomjkjoiakaaGreatDoorQK
import Derived.Test.YtcadomjkjoiakaaGreatDoorQJ
import Derived.Test.YtcadomjkjoiakaaGreatDoorQS
namespace Go.Proofs.YtcadomjkjoiakaaGreatDoor
open Go.RowKit Go.Shelf Cal Txt Ln Cb
attribute [local go_sem] Oper.semAt_some
theorem store_in {F:Fence} {n:Nat} {P:Program} (w:World) {ops:Array Oper} {rest:List Oper} {o:Oper} {a:Act} {Q:Exit→Act→World→Prop}
 (hg:o.guard=none) (ty:TypeId) (x y:Operand) (hop:o.op=.store ty x y) (b of:Nat) (cells:Array Value) (hx:a.eval x=.pointer (some ⟨b,of,none⟩)) (hy:a.eval y=.agg cells)
 (ht:w.there b of cells.size) (hi:(P.info? ty).map (·.size)=some cells.size) (h1:cells.all (·.oneCell')=true) (h:∀ w',w'=w.setCells b of cells.toList→wpListIn F n P ops Q rest (a.put o.dst undef) w'):wpListIn F n P ops Q (o :: rest) a w:=by
 refine wpListIn_plain hg fun K hK'=>?_
 have hL:=run_storeAt_mid (P:=P) w b of ty cells ht hi h1
 unfold Oper.wpIn
 refine ⟨?_,?_⟩
 ·simp [Oper.about,hop]
 ·rw [Oper.semAt_plain F _ _ (by rw [hop];intro c hc';cases hc')]
  simp only [execOp,hop,hx,hy,Sem.run_bind,hL,Result.andThen_ok,Sem.run_pure]
  exact hK' _ _ (h _ rfl)
def Psd (l:List UInt8) (e:Evt):Prop:=okF l∧ends l=true∧(∃ nx,4≤nx∧tkL (e00,0) (whl l)=some (e,nx))∧evF e=0
theorem wls_ok {l:List UInt8} (h:okF l):wls l=(whl l).map fun w=>(tb w,0):=by
 unfold wls whl
 rw [List.map_map]
 exact List.map_congr_left (fun g hg=>by unfold wlP;rw [if_pos (h g hg)];rfl)
theorem ps_yes {l:List UInt8} {st:Evt × Nat} (ho:okF l) (h:taR l ((e00,0),0)=some st):ends l=true∧4≤st.2∧tkL (e00,0) (whl l)=some st:=by
 unfold taR at h
 rw [wls_ok ho] at h
 split at h
 case isFalse=>cases h
 case isTrue q=>
  cases ht:tkL (e00,0) (whl l) with
  | none=>rw [(run_tk (whl l) (e00,0) 0).2 ht] at q;exact absurd q.1 (by decide)
  | some st'=>
    rw [(run_tk (whl l) (e00,0) 0).1 st' ht] at q h
    have e1:st'=st:=Option.some.inj h
    subst e1
    dsimp only at q
    refine ⟨?_,q.2.2,rfl⟩
    rcases q.2.1 with z | z
    ·have:whl l=[]:=List.eq_nil_of_length_eq_zero (by omega)
     rw [this] at ht
     have e2:(e00,0)=st':=Option.some.inj ht
     have:=q.2.2
     rw [← e2] at this
     exact absurd this (by decide)
    ·exact z
theorem ps_no {l:List UInt8} (h:taR l ((e00,0),0)=none) (e:Evt):¬ Psd l e:=by
 rintro ⟨ho,he,⟨nx,h4,ht⟩,_⟩
 unfold taR at h
 rw [wls_ok ho,(run_tk (whl l) (e00,0) 0).1 _ ht,if_pos ⟨rfl,Or.inr he,h4⟩] at h
 cases h
def psF (x:Int) (q:ByteArray × Int):Int × Bool:=if q.2=0 then (x,true) else (q.2,false)
theorem psF_run:∀ (gs:List (List (List UInt8))) (x y:Int) (b:Bool),Sg.run psF x (gs.map wlP)=(y,b)→(b=true↔∀ g∈gs,fold (unf g)=g)
 | [],x,y,b,h=>by
   rw [List.map_nil,Sg.run_nil] at h
   have:b=true:=(congrArg Prod.snd h).symm
   simp [this]
 | g :: gs,x,y,b,h=>by
   by_cases q:fold (unf g)=g
   ·have e1:psF x (wlP g)=(x,true):=by unfold psF wlP;rw [if_pos q,if_pos rfl]
    rw [List.map_cons,Sg.run_yes e1] at h
    rw [psF_run gs x y b h]
    simp [q]
   ·have e1:psF x (wlP g)=(2,false):=by unfold psF wlP;rw [if_neg q,if_neg (by decide)]
    rw [List.map_cons,Sg.run_no e1] at h
    have:b=false:=(congrArg Prod.snd h).symm
    simp [this,q]
theorem EOwn.same {W W':World} {b:Nat} {e:Evt} {s:Evs} (h:EOwn W b e s) (q:W'.heap[b]?=W.heap[b]?):EOwn W' b e s:=by
 have k:∀ (o:Nat) (v:Value),W.cell? ⟨b,o,none⟩=some v→W'.cell? ⟨b,o,none⟩=some v:=fun o v z=>(World.cell?_of_block q).trans z
 obtain ⟨⟨⟨a0,a1,a2,a3,a4⟩,⟨b0,b1,b2,b3,b4,b5,b6,b7⟩,c0,c1,c2,c3⟩,hf⟩:=h
 exact ⟨⟨⟨k _ _ a0,k _ _ a1,k _ _ a2,k _ _ a3,k _ _ a4⟩,⟨k _ _ b0,k _ _ b1,k _ _ b2,k _ _ b3,k _ _ b4,k _ _ b5,k _ _ b6,k _ _ b7⟩,k _ _ c0,k _ _ c1,k _ _ c2,k _ _ c3⟩,fun o=>(show W'.frozen? ⟨b,o,none⟩=W.frozen? ⟨b,o,none⟩ by simp only [World.frozen?,q]).trans (hf o)⟩
theorem EOwn.there {W:World} {b:Nat} {e:Evt} {s:Evs} (h:EOwn W b e s):W.there b 0 17:=fun j hj=>by
 obtain ⟨⟨⟨a0,a1,a2,a3,a4⟩,⟨b0,b1,b2,b3,b4,b5,b6,b7⟩,c0,c1,c2,c3⟩,hf⟩:=h
 refine ⟨?_,hf _⟩
 rcases (by omega:j=0∨j=1∨j=2∨j=3∨j=4∨j=5∨j=6∨j=7∨j=8∨j=9∨j=10∨j=11∨j=12∨j=13∨j=14∨j=15∨j=16) with rfl | rfl | rfl | rfl | rfl | rfl | rfl | rfl | rfl | rfl | rfl | rfl | rfl | rfl | rfl | rfl | rfl
 ·rw [a0];rfl
 ·rw [a1];rfl
 ·rw [a2];rfl
 ·rw [a3];rfl
 ·rw [a4];rfl
 ·rw [b0];rfl
 ·rw [b1];rfl
 ·rw [b2];rfl
 ·rw [b3];rfl
 ·rw [b4];rfl
 ·rw [b5];rfl
 ·rw [b6];rfl
 ·rw [b7];rfl
 ·rw [c0];rfl
 ·rw [c1];rfl
 ·rw [c2];rfl
 ·rw [c3];rfl
theorem EOwn.over {W:World} {b:Nat} {e:Evt} {s:Evs} (h:EOwn W b e s) (e':Evt) (s':Evs):EOwn (W.setCells b 0 (ecells e' s').toList) b e' s':=
 ⟨EBox.of_range (World.rangeAt_setCells_same _ _ _ _ h.there),fun o=>by rw [World.frozen?_setCells];exact h.2 o⟩
structure Ps3 (z:Nat) (e:Evt) (s:Evs) (n:Int) (v:Value) (W:World):Prop where
 c0:EOwn W z e s
 c1:Boxed W (z + 1) 3 (.int .i64 n)
 c2:Boxed W (z + 2) 35 v
theorem Ps3.same {z:Nat} {e:Evt} {s:Evs} {n:Int} {v:Value} {W W':World} (h:Ps3 z e s n v W) (q:∀ k,z≤k∧k<z + 3→W'.heap[k]?=W.heap[k]?):Ps3 z e s n v W':=
 ⟨h.c0.same (q _ ⟨by omega,by omega⟩),(q _ ⟨by omega,by omega⟩).trans h.c1,(q _ ⟨by omega,by omega⟩).trans h.c2⟩
def PsI (z:Nat) (_x:Int) (S:Nat→Prop) (W:World):Prop:=(∀ k,S k↔(z≤k∧k<z + 3))∧Ps3 z e00 nil8 0 .nilIface W
def PsX (z:Nat) (c:Code) (x:Int) (S:Nat→Prop) (W:World):Prop:=c=.ret∧¬ x=0∧(∀ k,S k↔(z≤k∧k<z + 3))∧Ps3 z e00 nil8 0 (.iface 73 (.int .i64 x)) W
theorem PsI.frm (z:Nat):Frm z (PsI z):=
 ⟨fun x S W h k hk=>by have:=(h.1 k).1 hk;have:=h.2.c2.lt;exact ⟨by omega,by omega⟩,fun x S W W' h q same=>⟨h.1,h.2.same (fun k hk=>same k ((h.1 k).2 hk))⟩⟩
theorem PsX.frm (z:Nat) (c:Code):Frm z (PsX z c):=
 ⟨fun x S W h k hk=>by have:=(h.2.2.1 k).1 hk;have:=h.2.2.2.c2.lt;exact ⟨by omega,by omega⟩,fun x S W W' h q same=>⟨h.1,h.2.1,h.2.2.1,h.2.2.2.same (fun k hk=>same k ((h.2.2.1 k).2 hk))⟩⟩
theorem RdJ.evb {b n1:Nat} {e:Evt} {nx:Nat} {s:Evs} {S:Nat→Prop} {W:World} (h:RdJ b n1 e nx s S W):EvB W e s:=
 ⟨h.ru.1.1,h.ru.2.1.1,h.ru.2.2.1.1,h.ru.2.2.2.1,row_ints h.r5,row_ints h.r6,row_nths h.r7,row_alms h.r8⟩
theorem RdJ.rng {b n1:Nat} {e:Evt} {nx:Nat} {s:Evs} {S:Nat→Prop} {W:World} (h:RdJ b n1 e nx s S W):W.rangeAt b 0 (ecells e s).toList:=fun j v hv=>by
 have hj:j<17:=(List.getElem?_eq_some_iff.1 hv).1
 refine h.rb.cell _ _ ?_
 rw [Nat.zero_add,← hv]
 rcases (by omega:j=0∨j=1∨j=2∨j=3∨j=4∨j=5∨j=6∨j=7∨j=8∨j=9∨j=10∨j=11∨j=12∨j=13∨j=14∨j=15∨j=16) with rfl | rfl | rfl | rfl | rfl | rfl | rfl | rfl | rfl | rfl | rfl | rfl | rfl | rfl | rfl | rfl | rfl <;> rfl
theorem Ps3.lay {z:Nat} {e:Evt} {s:Evs} {n:Int} {v:Value} {W:World} (h:Ps3 z e s n v W) (e':Evt) (s':Evs) (n':Int) (v':Value) (W1:World) (hw:W1=W.setCells z 0 (ecells e' s').toList) :
 Boxed W1 (z + 1) 3 (.int .i64 n)∧Boxed (W1.setCell ⟨z + 1,0,none⟩ (.int .i64 n')) (z + 2) 35 v∧
 Ps3 z e' s' n' v' ((W1.setCell ⟨z + 1,0,none⟩ (.int .i64 n')).setCell ⟨z + 2,0,none⟩ v')∧Kps (fun k=>z≤k∧k<z + 3) W ((W1.setCell ⟨z + 1,0,none⟩ (.int .i64 n')).setCell ⟨z + 2,0,none⟩ v'):=by
 subst hw
 have kA:Kps (fun j=>j=z) W (W.setCells z 0 (ecells e' s').toList):=kps_cells z _ 0 W
 have kB:Kps (fun j=>j=z + 1) (W.setCells z 0 (ecells e' s').toList) ((W.setCells z 0 (ecells e' s').toList).setCell ⟨z + 1,0,none⟩ (.int .i64 n')):=Kps.set _ rfl
 have kC:Kps (fun j=>j=z + 2) ((W.setCells z 0 (ecells e' s').toList).setCell ⟨z + 1,0,none⟩ (.int .i64 n')) (((W.setCells z 0 (ecells e' s').toList).setCell ⟨z + 1,0,none⟩ (.int .i64 n')).setCell ⟨z + 2,0,none⟩ v'):=Kps.set _ rfl
 have a0:=h.c0.over e' s'
 have a1:Boxed (W.setCells z 0 (ecells e' s').toList) (z + 1) 3 (.int .i64 n):=(kA.block _ h.c1.lt (by omega)).trans h.c1
 have a2:Boxed (W.setCells z 0 (ecells e' s').toList) (z + 2) 35 v:=(kA.block _ h.c2.lt (by omega)).trans h.c2
 have b0:=a0.same (kB.block _ a0.1.lt (by omega))
 have b1:=a1.set (.int .i64 n')
 have b2:Boxed ((W.setCells z 0 (ecells e' s').toList).setCell ⟨z + 1,0,none⟩ (.int .i64 n')) (z + 2) 35 v:=(kB.block _ a2.lt (by omega)).trans a2
 exact ⟨a1,b2,⟨b0.same (kC.block _ b0.1.lt (by omega)),(kC.block _ b1.lt (by omega)).trans b1,b2.set v'⟩,((kA.mono (S1:=fun k=>z≤k∧k<z + 3) (fun j hj=>by omega)).trans (kB.mono (S1:=fun k=>z≤k∧k<z + 3) (fun j hj=>by omega)) (Gr.refl _ _)).trans (kC.mono (S1:=fun k=>z≤k∧k<z + 3) (fun j hj=>by omega)) (Gr.refl _ _)⟩
end Go.Proofs.YtcadomjkjoiakaaGreatDoor
namespace Go.Proofs.YtcadomjkjoiakaaGreatDoor
open Cal Txt Ln Cb
theorem syn_of {r:Rl} (h:rf r=0):Syn r:=by
 obtain ⟨o1,o2,o3,o4,o5,o6⟩:=rf_good h
 obtain ⟨⟨a1,a2⟩,⟨b1,b2⟩,⟨c1,c2⟩,d1,d2⟩:=of_decide_eq_true o1
 obtain ⟨⟨⟨g1,g2⟩,g3⟩,g4⟩:((r.months.all monP=true∧r.days.all plaP=true)∧r.weeks.all wkP=true)∧r.pick.all plaP=true:=by simpa [itemsB] using o4
 refine ⟨⟨a1,a2⟩,by omega,by omega,by omega,fun n hn=>?_,fun n hn=>?_,fun x hx=>?_,fun n hn=>?_⟩
 ·have:=of_decide_eq_true (List.all_eq_true.1 g1 n hn);omega
 ·have:=of_decide_eq_true (List.all_eq_true.1 g2 n hn);omega
 ·have:=of_decide_eq_true (List.all_eq_true.1 g3 x hx);exact ⟨by omega,this.1,this.2.1⟩
 ·have:=of_decide_eq_true (List.all_eq_true.1 g4 n hn);omega
theorem psd_read {e:Evt} (h:evF e=0):Psd (crd e) e:=by
 obtain ⟨a,b,nx,c,_,d⟩:=card_read h (fun r hr=>syn_of hr)
 exact ⟨a,b,⟨nx,c,d⟩,h⟩
theorem psd_one {l:List UInt8} {e e':Evt} (h:Psd l e) (h':Psd l e'):e=e':=by
 obtain ⟨a,b,⟨nx,c,d⟩,f⟩:=h
 obtain ⟨a',b',⟨nx',c',d'⟩,f'⟩:=h'
 rw [d] at d'
 exact congrArg Prod.fst (Option.some.inj d')
end Go.Proofs.YtcadomjkjoiakaaGreatDoor
namespace Go.Proofs.YtcadomjkjoiakaaGreatDoor
open Go.RowKit Go.Shelf Cal Txt Ln Cb
attribute [local go_sem] Oper.semAt_some
def PsA (text:ByteArray) (w:World) (x:Ending) (w':World):Prop:=
 Below w.heap.size w w'∧((∃ e s,Psd text.data.toList e∧EvB w' e s∧x=.returned (.tuple #[.agg (ecells e s),.int .i64 0,.nilIface]))∨((∀ e,¬ Psd text.data.toList e)∧∃ (N k:Int),x=.returned (.tuple #[.agg (ecells e00 nil8),.int .i64 N,.iface 73 (.int .i64 k)])))
theorem ps_results {z:Nat} {e:Evt} {s:Evs} {n:Int} {v:Value} {W:World} (h:Ps3 z e s n v W) (ts:Array Value) (h2:ts.getD 2 undef=.pointer (some ⟨z,0,none⟩)) (h3:ts.getD 3 undef=.pointer (some ⟨z + 1,0,none⟩)) (h4:ts.getD 4 undef=.pointer (some ⟨z + 2,0,none⟩)):(results Tryz.f6 ts).run Tryz.prog W=.ok (.tuple #[.agg (ecells e s),.int .i64 n,v]) W:=by
 obtain ⟨⟨a0,a1,a2,a3,a4⟩,⟨b0,b1,b2,b3,b4,b5,b6,b7⟩,c0,c1,c2,c3⟩:=h.c0.1
 have k1:=h.c1.cell
 have k2:=h.c2.cell
 have g2:ts[2]?.getD undef=.pointer (some ⟨z,0,none⟩):=by simpa using h2
 have g3:ts[3]?.getD undef=.pointer (some ⟨z + 1,0,none⟩):=by simpa using h3
 have g4:ts[4]?.getD undef=.pointer (some ⟨z + 2,0,none⟩):=by simpa using h4
 simp [results,Tryz.results6,go_sem,g2,g3,g4,k1,k2,a0,a1,a2,a3,a4,b0,b1,b2,b3,b4,b5,b6,b7,c0,c1,c2,c3]
theorem ev_load_in {ops:Array Oper} {rest:List Oper} {op:Oper} {a:Act} {w:World} {Q:Exit→Act→World→Prop} (hgd:op.guard=none) (x:Operand) (ho:op.op=.load 32 x)
 (b:Nat) (e:Evt) (s:Evs) (hx:a.eval x=.pointer (some ⟨b,0,none⟩)) (hE:w.rangeAt b 0 (ecells e s).toList) (h:wpListIn Fence.wide 3 Tryz.prog ops Q rest (a.put op.dst (.agg (ecells e s))) w):wpListIn Fence.wide 3 Tryz.prog ops Q (op :: rest) a w:=
 load_in w hgd 32 x ho b 0 hx (ecells e s).toList _ hE Tryz.underlying32 rfl (by kernel_rfl) h
set_option maxRecDepth 100000 in
set_option maxHeartbeats 1000000 in
theorem cparse_any (text:ByteArray) (w:World) (hK:KeepK w) (hs:text.size≤1048576) :
 Calls Tryz.prog 6 #[.string text] w (PsA text w):=by
 obtain ⟨z,hz⟩:∃ z,z=w.heap.size:=⟨_,rfl⟩
 obtain ⟨W1,hW1⟩:∃ W1,W1=((w.alloc (.cells (ecells e00 nil8) 32)).alloc (.cells #[.int .i64 0] 3)).alloc (.cells #[.nilIface] 35):=⟨_,rfl⟩
 have bA:Below w.heap.size w (w.alloc (.cells (ecells e00 nil8) 32)):=(Below.refl _ _).alloc (Nat.le_refl _) _
 have bB:Below w.heap.size w ((w.alloc (.cells (ecells e00 nil8) 32)).alloc (.cells #[.int .i64 0] 3)):=bA.alloc bA.size _
 have bD:Below w.heap.size w W1:=by rw [hW1];exact bB.alloc bB.size _
 have zA:(w.alloc (.cells (ecells e00 nil8) 32)).heap.size=z + 1:=by rw [hz];simp
 have zB:((w.alloc (.cells (ecells e00 nil8) 32)).alloc (.cells #[.int .i64 0] 3)).heap.size=z + 2:=by rw [hz];simp
 have zD:W1.heap.size=z + 3:=by rw [hW1,hz];simp
 have x0:EOwn (w.alloc (.cells (ecells e00 nil8) 32)) z e00 nil8:=by rw [hz];exact EOwn.new _ _ _ _
 have x1:Boxed ((w.alloc (.cells (ecells e00 nil8) 32)).alloc (.cells #[.int .i64 0] 3)) (z + 1) 3 (.int .i64 0):=by rw [← zA];exact Boxed.new _ _ _
 have x2:Boxed W1 (z + 2) 35 .nilIface:=by rw [hW1,← zB];exact Boxed.new _ _ _
 obtain ⟨W2,hW2⟩:∃ W2,W2=W1.alloc (.cells #[.string text] 9):=⟨_,rfl⟩
 have bE:Below W1.heap.size W1 W2:=by rw [hW2];exact (Below.refl _ _).alloc (Nat.le_refl _) _
 have zE:W2.heap.size=z + 4:=by rw [hW2];simp [zD]
 have tx:Boxed W2 (z + 3) 9 (.string text):=by rw [hW2,← zD];exact Boxed.new _ _ _
 have b2:Below w.heap.size w W2:=bD.trans (bE.mono (by omega))
 have J0:PsI z 0 (fun k=>z≤k∧k<z + 3) W2:=⟨fun k=>Iff.rfl,by
  have y0:EOwn W1 z e00 nil8:=by rw [hW1];exact (x0.on ((Below.refl _ _).alloc (Nat.le_refl _) _)).on ((Below.refl _ _).alloc (Nat.le_refl _) _)
  have y1:Boxed W1 (z + 1) 3 (.int .i64 0):=by rw [hW1];exact bxd_alloc x1 _
  exact ⟨y0.on bE,by rw [hW2];exact bxd_alloc y1 _,by rw [hW2];exact bxd_alloc x2 _⟩⟩
 have HJ0:=Lib.hid J0
 have ITR:=Lib.hid (whole_itr text hs z W2 (z + 3) tx)
 have HK:=Lib.hid hK
 have B2:Hid (Below z w W2):=Lib.hid (b2.mono (by omega))
 have HW1:=Lib.hid hW1
 have HW2:=Lib.hid hW2
 have HZ:=Lib.hid hz
 clear hK J0 tx x0 x1 x2 bA bB bD bE zA zB hW1 hW2 b2 hz
 refine (callsIn_wide (n:=3)).1 ?_
 refine callsIn_of_wp_marks Tryz.func6 rfl trivial ?_ rfl
 simp only [Tryz.ntmps6,List.size_toArray,List.length_cons,List.length_nil,Nat.reduceAdd,Nat.reduceSub,Array.replicate_succ,Array.replicate_zero,List.push_toArray,List.append_toArray,List.nil_append,List.cons_append]
 gi_wp2_with fail
 rw [← HW1.out]
 refine ⟨trivial,(callsIn_wide.2 (wholeLines_any text W1)).mono ?_⟩
 rintro x w2 ⟨rfl,hw2⟩
 rw [← HW2.out] at hw2
 subst hw2
 clear HW1 HW2
 rw [zD]
 gi_wp2_with fail
 rw [← HZ.out,show z + 1 + 1=z + 2 from rfl]
 refine Sg.rf_law2 (gf:=31) (lb:=#[.pointer (some ⟨z + 3,0,none⟩)]) rfl (enters_of Tryz.func31 (by kernel_rfl) rfl) ITR.out (Below.refl _ _) (by omega) psF
  (PsI z) (PsX z) (PsI.frm z) (PsX.frm z) 0 (fun k=>z≤k∧k<z + 3) HJ0.out ?hT (fun _=>rfl) ?a1 ?assign ?body ?done ?stop
 case hT=>
  intro k hk
  subst hk
  exact ⟨by omega,by omega,fun q=>by omega,rfl⟩
 case assign=>
  intro l' d X K hK
  gi_wp2
  exact hK
 case body=>
  clear ITR
  rintro l' x S ⟨wh,fl⟩ X ⟨hS,P3⟩ hnX -
  by_cases hf:fl=0
  ·subst hf
   have ZZ:Hid (∃ y S',psF x (wh,0)=(y,true)∧Gr S X S'∧Kps S X X∧PsI z y S' X):=Lib.hid ⟨x,S,rfl,Gr.refl _ _,Kps.refl _ _,hS,P3⟩
   clear P3
   dsimp only
   rw [show fault 0=.nilIface from rfl]
   gi_wp2
   exact ZZ.out
  ·have LAY:=Lib.hid (P3.lay e00 nil8 0 (.iface 73 (.int .i64 fl)))
   have TH:=Lib.hid P3.c0.there
   have FE:Hid (fault fl=.iface 73 (.int .i64 fl)):=Lib.hid (efault_ne hf)
   have OC:Hid ((ecells e00 nil8).all (fun x=>x.oneCell')=true):=Lib.hid (by simp [Value.oneCell'])
   clear P3
   dsimp only
   rw [FE.out]
   gi_wp2_with (refine store_in _ rfl 32 _ _ rfl z 0 (ecells e00 nil8) rfl rfl TH.out (by kernel_rfl) OC.out ?_;intro X1 hX1;obtain ⟨a1,b2,l3,kp⟩:=LAY.out X1 hX1;have ZZ:=Lib.hid (And.intro l3 kp);have k1:=a1.cell;have f1:=a1.frozen;have l1:=a1.lt;have k2:=b2.cell;have f2:=b2.frozen;have l2:=b2.lt;clear hX1 a1 b2 l3 kp)
   exact ⟨fl,S,if_neg hf,Gr.refl _ _,ZZ.out.2.mono (fun k hk=>(hS k).2 hk),rfl,hf,hS,ZZ.out.1⟩
 case done=>
  rintro D x S X hD hSD hrun ⟨hS,P3⟩ hg3 hk3 hDd
  have OKF:Hid (okF text.data.toList):=Lib.hid ((psF_run _ _ _ _ hrun).1 rfl)
  have bX:Below z w2 X:=hk3.below (n0:=z) (fun k hk=>hk.elim (fun q=>q.1) (fun q=>by omega)) (by omega)
  have dX:D<X.heap.size:=(Array.getElem?_eq_some_iff.1 hDd).1
  have zX:z + 2<X.heap.size:=P3.c2.lt
  obtain ⟨b,hb⟩:∃ b,b=X.heap.size:=⟨_,rfl⟩
  obtain ⟨X1,hX1⟩:∃ X1,X1=X.alloc (.cells #[.string ⟨#[]⟩,.string ⟨#[]⟩,.int .i64 0,.int .i64 0,.bool false,.int .i64 0,.int .i64 0,.int .i64 0,.int .i64 0,.slice none 0 0,.slice none 0 0,.slice none 0 0,.slice none 0 0,.slice none 0 0,.slice none 0 0,.slice none 0 0,.slice none 0 0,.int .i64 0] 70):=⟨_,rfl⟩
  have bX1:Below X.heap.size X X1:=by rw [hX1];exact (Below.refl _ _).alloc (Nat.le_refl _) _
  have kX:KeepK X:=HK.out.below ((B2.out.trans bX).mono (by have:=HZ.out;omega))
  have r1:RBc X1 b (rcells e00 nil8 0):=by rw [hX1,hb];exact heap_alloc_new X _
  have J1:RdJ b b e00 0 nil8 (fun k=>k=b) X1:=⟨r1,World.ownsRow_nil _ _ _ _,World.ownsRow_nil _ _ _ _,World.ownsRow_nil _ _ _ _,World.ownsRow_nil _ _ _ _,fun g hg=>(by cases hg),⟨⟨nil_int _,Or.inl rfl⟩,⟨nil_int _,Or.inl rfl⟩,⟨nil_nth _,Or.inl rfl⟩,⟨nil_int _,Or.inl rfl⟩⟩,fun k=>by simp [Value.ownBlock],Nat.le_refl _⟩
  have KT:=Lib.hid (takeAll_any e00 0 b b nil8 (fun k=>k=b) text X1 J1 (fun k hk=>by rcases hk with ⟨q,_⟩ | ⟨q,_⟩ | ⟨q,_⟩ | ⟨q,_⟩ <;> exact absurd rfl q) (fun W q=>kX.below (bX1.trans (q.mono (by omega)))) hs (by unfold Lens;simp))
  have HX1:=Lib.hid hX1
  have HB:=Lib.hid hb
  -- the answers,behind whatever lies above
  have LAY:Hid (∀ Y,Below b X1 Y→Ps3 z e00 nil8 0 .nilIface Y∧Y.heap[D]?=some (.deferred (some []))∧Below z w Y∧b<Y.heap.size + 1):=Lib.hid (fun Y q=>by
   have q2:Below X.heap.size X Y:=bX1.trans (q.mono (by omega))
   exact ⟨P3.same (fun k hk=>q2.block k (by omega)),(q2.block D dX).trans hDd,(B2.out.trans bX).trans (q2.mono (by omega)),by have:=q2.size;omega⟩)
  have HDz:z + 3<D:=by omega
  have HDb:D<b:=by omega
  clear hS P3 hg3 hk3 hrun hDd bX hX1 hb bX1 kX r1 J1 HJ0 ITR B2 hSD
  gi_wp2_with fail
  rw [← HB.out,← HX1.out]
  refine ⟨trivial,(callsIn_wide.2 KT.out).mono ?_⟩
  clear KT HX1 zD zE hD zX dX
  rintro y0 Y ⟨hb1,hx⟩
  obtain ⟨P3,hDd,bY,bY2⟩:=LAY.out Y hb1
  clear LAY
  rcases hx with ⟨ht,N,rfl⟩ | ⟨st,N,ht,rfl,s,M,J,hM⟩
  ·have NO:Hid (∀ e,¬ Psd text.data.toList e):=Lib.hid (ps_no ht)
   have LAY:=Lib.hid (fun X1 q=>P3.lay e00 nil8 N (.iface 73 (.int .i64 2)) X1 q)
   have TH:=Lib.hid P3.c0.there
   have OC:Hid ((ecells e00 nil8).all (fun x=>x.oneCell')=true):=Lib.hid (by simp [Value.oneCell'])
   have HY:=Lib.hid (And.intro hDd bY)
   clear P3 hDd bY ht hb1
   gi_wp2_with (refine store_in _ rfl 32 _ _ rfl z 0 (ecells e00 nil8) rfl rfl TH.out (by kernel_rfl) OC.out ?_;intro X1 hX1;obtain ⟨a1,b2,l3,kp⟩:=LAY.out X1 hX1;have ZZ:=Lib.hid (And.intro l3 kp);have k1:=a1.cell;have f1:=a1.frozen;have l1:=a1.lt;have k2:=b2.cell;have f2:=b2.frozen;have l2:=b2.lt;clear hX1 a1 b2 l3 kp)
   obtain ⟨l3,kp⟩:=ZZ.out
   obtain ⟨hDd,bY⟩:=HY.out
   refine ⟨by simp,.inl ⟨_,_,rfl,run_takeDeferred ((kp.block D (Array.getElem?_eq_some_iff.1 hDd).1 (by omega)).trans hDd),?_⟩⟩
   exact ⟨_,ps_results (l3.same (fun k hk=>World.putObj_heap_other (by omega))) _ rfl rfl rfl,by rw [← HZ.out];exact (bY.trans (kp.below (n0:=z) (fun k hk=>hk.1) (by have:=bY.size;have:=HZ.out;omega))).trans ((Kps.put (S:=fun k=>k=D) _ rfl).below (n0:=z) (fun k hk=>by omega) (by have:=l3.c2.lt;omega)),Or.inr ⟨NO.out,_,_,rfl⟩⟩
  ·obtain ⟨e1,nx1⟩:=st
   obtain ⟨pe,p4,pt⟩:=ps_yes OKF.out ht
   dsimp only at J hM p4
   have KC:=Lib.hid (echeck_any e1 s Y J.evb)
   have R1:=Lib.hid J.rng
   have HJ:=Lib.hid J
   have HM:=Lib.hid hM
   have HP:=Lib.hid P3
   have PT:=Lib.hid (And.intro pe (And.intro p4 pt))
   have HY:=Lib.hid (And.intro hDd bY)
   clear P3 hDd bY ht hb1 J hM pe p4 pt bY2
   gi_wp2_with (refine ev_load_in ?i1 (.tmp 29) ?i2 b e1 s ?i3 R1.out ?i4;(case i1=>rfl);(case i2=>rfl);(case i3=>rfl))
   refine ⟨trivial,(callsIn_wide.2 KC.out).mono ?_⟩
   rintro y1 Y2 ⟨rfl,hq⟩
   clear KC R1
   have J2:=HJ.out.keep hq
   have P3:=HP.out.same (W':=Y2) (fun k hk=>hq.block k (by have:=HP.out.c2.lt;omega))
   have HY2:Hid (Y2.heap[D]?=some (.deferred (some []))∧Below z w Y2):=Lib.hid ⟨(hq.block D (Array.getElem?_eq_some_iff.1 HY.out.1).1).trans HY.out.1,HY.out.2.trans (hq.mono (by have:=HP.out.c2.lt;omega))⟩
   clear hq HY HP HJ
   by_cases hf:evF e1=0
   ·have F0:fault (evF e1)=.nilIface:=by rw [hf];rfl
    rw [F0]
    have R1:=Lib.hid J2.rng
    have LAY:=Lib.hid (fun X1 q=>P3.lay e1 s 0 .nilIface X1 q)
    have TH:=Lib.hid P3.c0.there
    have HJ:=Lib.hid J2
    have OC:Hid ((ecells e1 s).all (fun x=>x.oneCell')=true):=Lib.hid (by
     obtain ⟨⟨_,_,q1,_⟩,⟨_,_,q2,_⟩,⟨_,_,q3,_⟩,⟨_,_,q4,_⟩,⟨_,_,q5,_⟩,⟨_,_,q6,_⟩,⟨_,_,q7,_⟩,⟨_,_,q8,_⟩⟩:=J2.evb
     simp [Value.oneCell',q1,q2,q3,q4,q5,q6,q7,q8])
    clear P3 J2 F0
    gi_wp2_with (first | (refine load_in _ rfl 32 _ rfl b 0 rfl (ecells e1 s).toList _ R1.out Tryz.underlying32 rfl (by kernel_rfl) ?_) | (refine store_in _ rfl 32 _ _ rfl z 0 (ecells e1 s) rfl rfl TH.out (by kernel_rfl) OC.out ?_;intro X1 hX1;obtain ⟨a1,b2,l3,kp⟩:=LAY.out X1 hX1;have ZZ:=Lib.hid (And.intro l3 kp);have k1:=a1.cell;have f1:=a1.frozen;have l1:=a1.lt;have k2:=b2.cell;have f2:=b2.frozen;have l2:=b2.lt;clear hX1 a1 b2 l3 kp))
    obtain ⟨l3,kp⟩:=ZZ.out
    obtain ⟨hDd,bY⟩:=HY2.out
    refine ⟨by simp,.inl ⟨_,_,rfl,run_takeDeferred ((kp.block D (Array.getElem?_eq_some_iff.1 hDd).1 (by omega)).trans hDd),?_⟩⟩
    refine ⟨_,ps_results (l3.same (fun k hk=>World.putObj_heap_other (by omega))) _ rfl rfl rfl,by rw [← HZ.out];exact (bY.trans (kp.below (n0:=z) (fun k hk=>hk.1) (by have:=bY.size;have:=HZ.out;omega))).trans ((Kps.put (S:=fun k=>k=D) _ rfl).below (n0:=z) (fun k hk=>by omega) (by have:=l3.c2.lt;omega)),Or.inl ⟨e1,s,⟨OKF.out,PT.out.1,⟨nx1,PT.out.2.1,PT.out.2.2⟩,hf⟩,?_,rfl⟩⟩
    exact (HJ.out.same (fun k hk=>(World.putObj_heap_other (by have:=(HJ.out.lt k hk).1;omega)).trans (kp.block k (HJ.out.lt k hk).2 (by have:=(HJ.out.lt k hk).1;omega))) (fun k hk=>(World.putObj_heap_other (by have:=HM.out k (Or.inr hk);omega)).trans (kp.block k (HJ.out.ru.blk hk).1 (by have:=HM.out k (Or.inr hk);omega)))).evb
   ·have NO:Hid (∀ e,¬ Psd text.data.toList e):=Lib.hid (fun e h=>by
     obtain ⟨_,_,⟨nx,_,h1⟩,h2⟩:=h
     rw [PT.out.2.2] at h1
     have:=Option.some.inj h1
     have e2:e1=e:=congrArg Prod.fst this
     exact hf (e2 ▸ h2))
    rw [efault_ne hf]
    have LAY:=Lib.hid (fun X1 q=>P3.lay e00 nil8 0 (.iface 73 (.int .i64 (evF e1))) X1 q)
    have TH:=Lib.hid P3.c0.there
    have OC:Hid ((ecells e00 nil8).all (fun x=>x.oneCell')=true):=Lib.hid (by simp [Value.oneCell'])
    clear P3 J2
    gi_wp2_with (refine store_in _ rfl 32 _ _ rfl z 0 (ecells e00 nil8) rfl rfl TH.out (by kernel_rfl) OC.out ?_;intro X1 hX1;obtain ⟨a1,b2,l3,kp⟩:=LAY.out X1 hX1;have ZZ:=Lib.hid (And.intro l3 kp);have k1:=a1.cell;have f1:=a1.frozen;have l1:=a1.lt;have k2:=b2.cell;have f2:=b2.frozen;have l2:=b2.lt;clear hX1 a1 b2 l3 kp)
    obtain ⟨l3,kp⟩:=ZZ.out
    obtain ⟨hDd,bY⟩:=HY2.out
    refine ⟨by simp,.inl ⟨_,_,rfl,run_takeDeferred ((kp.block D (Array.getElem?_eq_some_iff.1 hDd).1 (by omega)).trans hDd),?_⟩⟩
    exact ⟨_,ps_results (l3.same (fun k hk=>World.putObj_heap_other (by omega))) _ rfl rfl rfl,by rw [← HZ.out];exact (bY.trans (kp.below (n0:=z) (fun k hk=>hk.1) (by have:=bY.size;have:=HZ.out;omega))).trans ((Kps.put (S:=fun k=>k=D) _ rfl).below (n0:=z) (fun k hk=>by omega) (by have:=l3.c2.lt;omega)),Or.inr ⟨NO.out,_,_,rfl⟩⟩
 case stop=>
  rintro D c x S X hD hSD hrun ⟨rfl,hx,hS,P3⟩ hg3 hk3 hDd
  have NO:Hid (∀ e,¬ Psd text.data.toList e):=Lib.hid (fun e h=>by have:=(psF_run _ _ _ _ hrun).2 h.1;cases this)
  have bX:Below z w2 X:=hk3.below (n0:=z) (fun k hk=>hk.elim (fun q=>q.1) (fun q=>by omega)) (by omega)
  have kD:Kps (fun k=>k=D) X (X.putObj D (.deferred none)):=Kps.put _ rfl
  have H4:Hid (Below z w (X.putObj D (.deferred none))):=Lib.hid ((B2.out.trans bX).trans (kD.below (n0:=z) (fun k hk=>by omega) (by have:=bX.size;omega)))
  have P4:=Lib.hid (P3.same (W':=X.putObj D (.deferred none)) (fun k hk=>World.putObj_heap_other (by omega)))
  clear hrun hg3 hk3 bX kD P3
  gi_wp2
  refine ⟨by simp,.inl ⟨_,_,rfl,run_takeDeferred hDd,?_⟩⟩
  exact ⟨_,ps_results P4.out _ rfl rfl rfl,by rw [← HZ.out];exact H4.out,Or.inr ⟨NO.out,_,_,rfl⟩⟩
end Go.Proofs.YtcadomjkjoiakaaGreatDoor
