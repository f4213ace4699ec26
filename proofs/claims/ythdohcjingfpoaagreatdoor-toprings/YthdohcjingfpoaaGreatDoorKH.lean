/-
  Texts of our own that serve the card of this claim, joined into one.
-/
import Derived.Test.YthdohcjingfpoaaGreatDoorKG
namespace Go.Proofs.YthdohcjingfpoaaGreatDoor.Dk
open Go.RowKit Qu Go.Maps Zo
variable {w w' W:World} {b:Nat} {D:Ds} {R:Raw}
abbrev askC (wh:Int) (e:Evt) (s:Evs) (nm:ByteArray) (r:Rq) (n:Int):Array Value:=#[.int .i64 wh,.string e.name,.string e.text,.int .i64 e.start,.int .i64 e.len,.bool e.rep,.int .i64 e.rule.freq,.int .i64 e.rule.every,.int .i64 e.rule.count,.int .i64 e.rule.till,s.vm,s.vd,s.vw,s.vp,s.vo,s.vn,s.vc,s.va,.string nm,.int .i64 r.1,.string r.2.1,.int .i64 r.2.2.1,.int .i64 r.2.2.2.1,.int .i64 r.2.2.2.2,.int .i64 n]
def stF (D:Ds) (wh:Int) (e:Evt) (nm:ByteArray) (r:Rq) (n:Int):Int:=if wh=1 then putF D e else if wh=2 then (if hasE nm D.ev=true then 0 else 5) else if wh=3 then ticF D n else if wh=4 then donF D.rung r else if wh=5 then snzF D r n else 1
def stL (D:Ds) (wh:Int) (n:Int):List Rq:=if wh=3 then ticL D n else []
def Ds.step (D:Ds) (wh:Int) (e:Evt) (nm:ByteArray) (r:Rq) (n:Int):Ds:=if wh=1 then D.put e else if wh=2 then (if hasE nm D.ev=true then D.drop nm else D) else if wh=3 then D.tick n else if wh=4 then D.don r else if wh=5 then D.snooze r n else D
theorem Gd.step (h:Gd D) (wh:Int) (e:Evt) (nm:ByteArray) (r:Rq) (n:Int):Gd (D.step wh e nm r n):=by
 unfold Ds.step
 split
 ·exact h.put e
 split
 ·split
  ·exact h.dropd nm
  ·exact h
 split
 ·exact h.tick n
 split
 ·exact h.don r
 split
 ·exact h.snooze r n
 ·exact h
theorem ev_loadO {ops:Array Oper} {rest:List Oper} {op:Oper} {a:Act} {w:World} {Q:Exit→Act→World→Prop} (hgd:op.guard=none) (x:Operand) (ho:op.op=.load 40 x)
 (b o:Nat) (e:Evt) (s:Evs) (hx:a.eval x=.pointer (some ⟨b,o,none⟩)) (hE:w.rangeAt b o (ecells e s).toList) (h:wpList Tryz.prog ops Q rest (a.put op.dst (.agg (ecells e s))) w):wpList Tryz.prog ops Q (op :: rest) a w:=
 wpList_load_mid hgd 40 x ho b o hx (ecells e s).toList _ hE Tryz.underlying40 rfl (by kernel_rfl) h
theorem DoA.toL {f:Int} {D':Ds} {W0:World} {x:Ending} (b0:Below w.heap.size w W0) (h:DoA f D' b R W0 x w'):x=.returned (fault f)∧DoL f [] D' b R w (.returned (.tuple #[.slice none 0 0,fault f])) w':=by
 obtain ⟨hx,R',hd,hk⟩:=h
 exact ⟨hx,DoL.none hd ((Kd.of_below b R b0).trans hk)⟩
set_option maxRecDepth 100000 in
set_option maxHeartbeats 8000000 in
theorem do_any (wh:Int) (e:Evt) (s:Evs) (nm:ByteArray) (r:Rq) (n:Int) {S0:Nat→Prop} (h:Dm w b D R) (g:Gd D) (hT:Tab w) (hv:Sup S0 w (fun X=>EvB X e s)) (hS:∀ k,S0 k→k<w.heap.size∧¬ Fd b R k) (hn:nm.size≤maxLen) :
 Calls Tryz.prog 8 #[.pointer (some ⟨b,0,none⟩),.agg (askC wh e s nm r n)] w (DoL (stF D wh e nm r n) (stL D wh n) (D.step wh e nm r n) b R w):=by
 obtain ⟨W0,hW0⟩:∃ W0,W0=w.alloc (.cells (askC wh e s nm r n) 47):=⟨_,rfl⟩
 have b0:Below w.heap.size w W0:=by rw [hW0];exact below_alloc _ _
 have hb:W0.heap[w.heap.size]?=some (.cells (askC wh e s nm r n) 47 (0,0)):=by rw [hW0];exact heap_alloc_new _ _
 have cl:∀ (j:Nat) (v:Value),(askC wh e s nm r n).toList[j]?=some v→W0.cell? ⟨w.heap.size,j,none⟩=some v:=fun j v hj=>by
  have hj':(askC wh e s nm r n)[j]?=some v:=by rw [← Array.getElem?_toList];exact hj
  simp only [World.cell?,hb]
  exact hj'
 have d0:=h.onB b0
 have bl:b<w.heap.size:=h.lt
 have bl0:=d0.lt
 have c0:=cl 0 _ rfl
 have gl:=cell_in c0
 have l1:D.rung.length≤1000000:=by have:=g.nr;omega
 have l2:D.snz.length≤1000000:=by have:=g.ns;omega
 have l3:D.ev.length≤1000000:=by have:=g.nev;omega
 have HW:=Lib.hid hW0
 by_cases q1:wh=1
 ·subst q1
  have e1:stF D 1 e nm r n=(putF D e):=by unfold stF;rw [if_pos rfl]
  have e2:stL D 1 n=[]:=if_neg (by decide)
  have e3:D.step 1 e nm r n=(D.put e):=by unfold Ds.step;rw [if_pos rfl]
  rw [e1,e2,e3]
  have K:Hid (Calls Tryz.prog 29 #[.pointer (some ⟨b,0,none⟩),.agg (ecells e s)] W0 fun x w'=>x=.returned (fault (putF D e))∧Hid (DoL (putF D e) [] (D.put e) b R w (.returned (.tuple #[.slice none 0 0,fault (putF D e)])) w')):=Lib.hid ((dput_any e s d0 (hv.on b0.size (fun k hk=>b0.block k (hS k hk).1) (fun _ h=>h)) (fun k hk=>⟨Nat.lt_of_lt_of_le (hS k hk).1 b0.size,(hS k hk).2⟩) l1 l2 l3).mono (fun x w' z=>⟨(DoA.toL b0 z).1,Lib.hid (DoA.toL b0 z).2⟩))
  generalize DoL (putF D e) [] (D.put e) b R w=PP at K ⊢
  generalize fault (putF D e)=FF at K
  have RA:Hid (W0.rangeAt w.heap.size 1 (ecells e s).toList):=Lib.hid (fun j v hj=>cl (1 + j) v (by
   have hlt:j<17:=(List.getElem?_eq_some_iff.1 hj).1
   rw [← hj]
   rcases (by omega:j=0∨j=1∨j=2∨j=3∨j=4∨j=5∨j=6∨j=7∨j=8∨j=9∨j=10∨j=11∨j=12∨j=13∨j=14∨j=15∨j=16) with rfl | rfl | rfl | rfl | rfl | rfl | rfl | rfl | rfl | rfl | rfl | rfl | rfl | rfl | rfl | rfl | rfl <;> rfl))
  clear e1 e2 e3 h g hT hv hS hn hW0 hb cl d0 l1 l2 l3 b0
  go_enter Tryz.func8,Tryz.ntmps8
  go_upto_region 1 with fail
  rw [← HW.out]
  clear HW
  go_wp2_with (first | (refine ev_loadO ?h1 (.tmp 11) ?h2 w.heap.size 1 e s ?h3 RA.out ?h4;(case h1=>rfl);(case h2=>rfl);(case h3=>rfl)) | (go_at_call 29;refine K.out.mono ?_;rintro x w2 ⟨rfl,FI⟩))
  exact FI.out
 by_cases q2:wh=2
 ·subst q2
  have e1:stF D 2 e nm r n=(if hasE nm D.ev=true then 0 else 5):=by unfold stF;rw [if_neg (by decide),if_pos rfl]
  have e2:stL D 2 n=[]:=if_neg (by decide)
  have e3:D.step 2 e nm r n=(if hasE nm D.ev=true then D.drop nm else D):=by unfold Ds.step;rw [if_neg (by decide),if_pos rfl]
  rw [e1,e2,e3]
  have K:Hid (Calls Tryz.prog 30 #[.pointer (some ⟨b,0,none⟩),.string nm] W0 fun x w'=>x=.returned (fault (if hasE nm D.ev=true then 0 else 5))∧Hid (DoL (if hasE nm D.ev=true then 0 else 5) [] (if hasE nm D.ev=true then D.drop nm else D) b R w (.returned (.tuple #[.slice none 0 0,fault (if hasE nm D.ev=true then 0 else 5)])) w')):=Lib.hid ((ddrop_any nm hn d0 l1 l2).mono (fun x w' z=>⟨(DoA.toL b0 z).1,Lib.hid (DoA.toL b0 z).2⟩))
  generalize DoL (if hasE nm D.ev=true then 0 else 5) [] (if hasE nm D.ev=true then D.drop nm else D) b R w=PP at K ⊢
  generalize fault (if hasE nm D.ev=true then 0 else 5)=FF at K
  have y1:=cl 18 _ rfl
  clear e1 e2 e3 h g hT hv hS hn hW0 hb cl d0 l1 l2 l3 b0
  go_enter Tryz.func8,Tryz.ntmps8
  go_upto_region 1 with fail
  rw [← HW.out]
  clear HW
  go_wp2_with ((go_at_call 30;refine K.out.mono ?_;rintro x w2 ⟨rfl,FI⟩))
  exact FI.out
 by_cases q3:wh=3
 ·subst q3
  have e1:stF D 3 e nm r n=ticF D n:=by unfold stF;rw [if_neg (by decide),if_neg (by decide),if_pos rfl]
  have e2:stL D 3 n=ticL D n:=if_pos rfl
  have e3:D.step 3 e nm r n=D.tick n:=by unfold Ds.step;rw [if_neg (by decide),if_neg (by decide),if_pos rfl]
  rw [e1,e2,e3]
  have K:Hid (Calls Tryz.prog 31 #[.pointer (some ⟨b,0,none⟩),.int .i64 n] W0 fun x w'=>∃ u,x=.returned (.tuple #[u,fault (ticF D n)])∧Hid (DoL (ticF D n) (ticL D n) (D.tick n) b R w (.returned (.tuple #[u,fault (ticF D n)])) w')):=Lib.hid
   ((dtick_any n d0 (hT.below b0) g.srt g.name (by have:=g.ns;omega) (by have:=g.nev;omega) (by have:=g.nr;omega) g.n0 g.n1).mono (fun x w' ⟨u,hx,ho,R',hd,hk,hu⟩=>⟨u,hx,Lib.hid ⟨u,rfl,own_lower ho b0.size,R',hd,(Kd.of_below b R b0).trans hk,hu⟩⟩))
  generalize DoL (ticF D n) (ticL D n) (D.tick n) b R w=PP at K ⊢
  generalize fault (ticF D n)=FF at K
  have y1:=cl 24 _ rfl
  clear e1 e2 e3 h g hT hv hS hn hW0 hb cl d0 l1 l2 l3 b0
  go_enter Tryz.func8,Tryz.ntmps8
  go_upto_region 1 with fail
  rw [← HW.out]
  clear HW
  go_wp2_with (go_at_call 31;refine K.out.mono ?_;rintro x w2 ⟨u,rfl,FI⟩)
  exact FI.out
 by_cases q4:wh=4
 ·subst q4
  have e1:stF D 4 e nm r n=(donF D.rung r):=by unfold stF;rw [if_neg (by decide),if_neg (by decide),if_neg (by decide),if_pos rfl]
  have e2:stL D 4 n=[]:=if_neg (by decide)
  have e3:D.step 4 e nm r n=(D.don r):=by unfold Ds.step;rw [if_neg (by decide),if_neg (by decide),if_neg (by decide),if_pos rfl]
  rw [e1,e2,e3]
  have K:Hid (Calls Tryz.prog 32 #[.pointer (some ⟨b,0,none⟩),agQ r] W0 fun x w'=>x=.returned (fault (donF D.rung r))∧Hid (DoL (donF D.rung r) [] (D.don r) b R w (.returned (.tuple #[.slice none 0 0,fault (donF D.rung r)])) w')):=Lib.hid ((ddone_any r d0 g.rung l1).mono (fun x w' z=>⟨(DoA.toL b0 z).1,Lib.hid (DoA.toL b0 z).2⟩))
  generalize DoL (donF D.rung r) [] (D.don r) b R w=PP at K ⊢
  generalize fault (donF D.rung r)=FF at K
  have y1:=cl 19 _ rfl
  have y2:=cl 20 _ rfl
  have y3:=cl 21 _ rfl
  have y4:=cl 22 _ rfl
  have y5:=cl 23 _ rfl
  clear e1 e2 e3 h g hT hv hS hn hW0 hb cl d0 l1 l2 l3 b0
  go_enter Tryz.func8,Tryz.ntmps8
  go_upto_region 1 with fail
  rw [← HW.out]
  clear HW
  go_wp2_with ((go_at_call 32;refine K.out.mono ?_;rintro x w2 ⟨rfl,FI⟩))
  exact FI.out
 by_cases q5:wh=5
 ·subst q5
  have e1:stF D 5 e nm r n=(snzF D r n):=by unfold stF;rw [if_neg (by decide),if_neg (by decide),if_neg (by decide),if_neg (by decide),if_pos rfl]
  have e2:stL D 5 n=[]:=if_neg (by decide)
  have e3:D.step 5 e nm r n=(D.snooze r n):=by unfold Ds.step;rw [if_neg (by decide),if_neg (by decide),if_neg (by decide),if_neg (by decide),if_pos rfl]
  rw [e1,e2,e3]
  have K:Hid (Calls Tryz.prog 33 #[.pointer (some ⟨b,0,none⟩),agQ r,.int .i64 n] W0 fun x w'=>x=.returned (fault (snzF D r n))∧Hid (DoL (snzF D r n) [] (D.snooze r n) b R w (.returned (.tuple #[.slice none 0 0,fault (snzF D r n)])) w')):=Lib.hid ((dsnooze_any r n d0 g.rung g.snz l1 l2 g.n0 g.n1).mono (fun x w' z=>⟨(DoA.toL b0 z).1,Lib.hid (DoA.toL b0 z).2⟩))
  generalize DoL (snzF D r n) [] (D.snooze r n) b R w=PP at K ⊢
  generalize fault (snzF D r n)=FF at K
  have y1:=cl 19 _ rfl
  have y2:=cl 20 _ rfl
  have y3:=cl 21 _ rfl
  have y4:=cl 22 _ rfl
  have y5:=cl 23 _ rfl
  have y6:=cl 24 _ rfl
  clear e1 e2 e3 h g hT hv hS hn hW0 hb cl d0 l1 l2 l3 b0
  go_enter Tryz.func8,Tryz.ntmps8
  go_upto_region 1 with fail
  rw [← HW.out]
  clear HW
  go_wp2_with ((go_at_call 33;refine K.out.mono ?_;rintro x w2 ⟨rfl,FI⟩))
  exact FI.out
 have e1:stF D wh e nm r n=1:=by unfold stF;rw [if_neg q1,if_neg q2,if_neg q3,if_neg q4,if_neg q5]
 have e2:stL D wh n=[]:=if_neg q3
 have e3:D.step wh e nm r n=D:=by unfold Ds.step;rw [if_neg q1,if_neg q2,if_neg q3,if_neg q4,if_neg q5]
 rw [e1,e2,e3]
 have N1:=Lib.hid (DoL.none (f:=1) d0 (Kd.of_below b R b0))
 generalize DoL 1 [] D b R w=PP at N1 ⊢
 clear e1 e2 e3 h g hT hv hS hn hW0 hb cl d0 l1 l2 l3 b0
 go_enter Tryz.func8,Tryz.ntmps8
 go_upto_region 1 with fail
 rw [← HW.out]
 clear HW
 go_wp2
 exact N1.out
end Go.Proofs.YthdohcjingfpoaaGreatDoor.Dk
namespace Go.Proofs.YthdohcjingfpoaaGreatDoor.Dk
open Go.RowKit Qu Go.Maps Zo
def Wd (W1 W:World) (b:Nat) (D:Ds) (K:Nat→Prop):Prop:=∃ R,Dm W b D R∧Below W1.heap.size W1 W∧(∀ k,Fd b R k∨R.S k→W1.heap.size≤k)∧∀ k,K k→k<W.heap.size∧¬ (Fd b R k∨R.S k)
variable {W1 W W':World} {b:Nat} {D:Ds} {K K':Nat→Prop}
theorem Wd.imp (h:Wd W1 W b D K) (i:∀ k,K' k→K k):Wd W1 W b D K':=by
 obtain ⟨R,h1,h2,h3,h4⟩:=h
 exact ⟨R,h1,h2,h3,fun k hk=>h4 k (i k hk)⟩
theorem Wd.below (h:Wd W1 W b D K):Below W1.heap.size W1 W:=by
 obtain ⟨R,_,h2,_⟩:=h
 exact h2
theorem Wd.lt (h:Wd W1 W b D K):b<W.heap.size:=by
 obtain ⟨R,h1,_⟩:=h
 exact h1.lt
theorem Wd.onB (h:Wd W1 W b D K) (q:Below W.heap.size W W') (i:∀ k,K' k→K k∨(W.heap.size≤k∧k<W'.heap.size)):Wd W1 W' b D K':=by
 obtain ⟨R,h1,h2,h3,h4⟩:=h
 refine ⟨R,h1.onB q,h2.trans (q.mono h2.size),h3,fun k hk=>?_⟩
 rcases i k hk with z | ⟨z1,z2⟩
 ·exact ⟨Nat.lt_of_lt_of_le (h4 k z).1 q.size,(h4 k z).2⟩
 ·exact ⟨z2,fun e=>by
  rcases e with e | e
  ·have:=h1.flt e;omega
  ·have:=(h1.sin k e).1;omega⟩
theorem Wd.keptB (h:Wd W1 W b D K) (q:Below W.heap.size W W'):∀ k,K k→W'.heap[k]?=W.heap[k]?:=fun k hk=>by
 obtain ⟨R,_,_,_,h4⟩:=h
 exact q.block k (h4 k hk).1
def WdA (W1 W:World) (b:Nat) (D':Ds) (f:Int) (L:List Rq) (K:Nat→Prop) (x:Ending) (W':World):Prop:=∃ a c,x=.returned (.tuple #[.slice a L.length c,fault f])∧Ow W' W1.heap.size (.slice a L.length c) L∧Wd W1 W' b D' (fun k=>K k∨(Value.slice a L.length c).ownBlock=some k)∧∀ k,K k→W'.heap[k]?=W.heap[k]?
theorem wd_do (wh:Int) (e:Evt) (s:Evs) (nm:ByteArray) (r:Rq) (n:Int) (h:Wd W1 W b D K) (g:Gd D) (hT:Tab W1) (hv:EvB W1 e s) (hn:nm.size≤maxLen) :
 Calls Tryz.prog 8 #[.pointer (some ⟨b,0,none⟩),.agg (askC wh e s nm r n)] W (WdA W1 W b (D.step wh e nm r n) (stF D wh e nm r n) (stL D wh n) K):=by
 obtain ⟨R,h1,h2,h3,h4⟩:=h
 refine (do_any (S0:=fun k=>k<W1.heap.size) wh e s nm r n h1 g (hT.below h2) (fun X hs hk=>?_) (fun k hk=>⟨Nat.lt_of_lt_of_le hk h2.size,fun z=>by have:=h3 k (Or.inl z);omega⟩) hn).mono (fun x W' ⟨u,hx,ho,R',hd,hk,hu⟩=>?_)
 ·have:=hv.on (w':={ X with os:=W1.os,tape:=W1.tape,output:=W1.output }) ⟨rfl,rfl,rfl,Nat.le_trans h2.size hs,fun k hk2=>(hk k hk2).trans (h2.block k hk2)⟩
  exact this
 ·obtain ⟨a,c,rfl,_⟩:=ho.rd
  refine ⟨a,c,hx,own_lower ho h2.size,⟨R',hd,h2.trans (hk.below h2.size (fun k z=>h3 k (Or.inl z))),fun k z=>?_,fun k z=>?_⟩,fun k z=>hk.block k (h4 k z).1 (fun e=>(h4 k z).2 (Or.inl e))⟩
  ·rcases hk.own k z with y | y
   ·exact h3 k y
   ·exact Nat.le_trans h2.size y
  ·rcases z with z | z
   ·refine ⟨Nat.lt_of_lt_of_le (h4 k z).1 hk.size,fun y=>?_⟩
    rcases hk.own k y with q | q
    ·exact (h4 k z).2 q
    ·have:=(h4 k z).1
     omega
   ·exact ⟨(ho.lt k z).2,hu k z⟩
def WdR (W1 W:World) (b:Nat) (D:Ds) (L:List Rq) (K:Nat→Prop) (x:Ending) (W':World):Prop:=∃ a c,x=.returned (.slice a L.length c)∧Ow W' W1.heap.size (.slice a L.length c) L∧Wd W1 W' b D (fun k=>K k∨(Value.slice a L.length c).ownBlock=some k)∧Below W.heap.size W W'
theorem wd_rung (h:Wd W1 W b D K) (g:Gd D):Calls Tryz.prog 9 #[.pointer (some ⟨b,0,none⟩)] W (WdR W1 W b D D.rung K):=by
 have h0:=h
 obtain ⟨R,h1,h2,h3,h4⟩:=h
 refine (drung_any h1 (by have:=g.nr;omega)).mono (fun x W' ⟨u,hx,ho,hb⟩=>?_)
 obtain ⟨a,c,rfl,_⟩:=ho.rd
 exact ⟨a,c,hx,own_lower ho h2.size,h0.onB hb (fun k z=>by
  rcases z with z | z
  ·exact Or.inl z
  ·exact Or.inr (ho.lt k z)),hb⟩
theorem wd_snz (h:Wd W1 W b D K) (g:Gd D):Calls Tryz.prog 15 #[.pointer (some ⟨b,0,none⟩)] W (WdR W1 W b D D.snz K):=by
 have h0:=h
 obtain ⟨R,h1,h2,h3,h4⟩:=h
 refine (dsnz_any h1 (by have:=g.ns;omega)).mono (fun x W' ⟨u,hx,ho,hb⟩=>?_)
 obtain ⟨a,c,rfl,_⟩:=ho.rd
 exact ⟨a,c,hx,own_lower ho h2.size,h0.onB hb (fun k z=>by
  rcases z with z | z
  ·exact Or.inl z
  ·exact Or.inr (ho.lt k z)),hb⟩
theorem wd_names (h:Wd W1 W b D K) (g:Gd D):Calls Tryz.prog 12 #[.pointer (some ⟨b,0,none⟩)] W fun x W'=>∃ a c,x=.returned (.slice a D.ev.length c)∧Wd W1 W' b D K∧Below W.heap.size W W'∧(D.ev=[]∨∃ g cur,a=some ⟨g,0,none⟩∧W'.heap[g]?=some (.cells cur 9 (0,0))∧∀ X:World,X.heap[g]?=W'.heap[g]?→∀ i,i<D.ev.length→X.cell? ⟨g,i,none⟩=some (.string (D.ev.getD i noE).name)):=by
 have h0:=h
 obtain ⟨R,h1,h2,h3,h4⟩:=h
 refine (dnames_any h1 g.srt (by have:=g.nev;omega)).mono (fun x W' ⟨u,hx,ho,hb⟩=>?_)
 obtain ⟨a,c,rfl,hr⟩:=nm_row ho
 exact ⟨a,c,hx,h0.onB hb (fun k z=>Or.inl z),hb,hr⟩
theorem wd_new (a:Int) (l:List (Int × Int)) (v:Value) (hv:ZoneIn W v a l) (hl:l.length≤1000000) (hz:zf a l=0) (h1:Below W1.heap.size W1 W) (hK:∀ k,K k→k<W.heap.size) :
 Calls Tryz.prog 7 #[v] W fun x W'=>∃ b,x=.returned (.tuple #[.pointer (some ⟨b,0,none⟩),.nilIface])∧Wd W1 W' b (newD a l) K∧Below W.heap.size W W':=by
 refine (new_any a l v W hv hl).mono (fun x W' ⟨p,hx,hb,hp⟩=>?_)
 rw [hz,efault_0] at hx
 rcases hp with ⟨q,_⟩ | ⟨_,b,rfl,R,hd,hb2,hF⟩
 ·exact absurd hz q
 ·exact ⟨b,hx,⟨R,hd,h1.trans (hb.mono h1.size),fun k z=>Nat.le_trans h1.size (hF k z),fun k z=>⟨Nat.lt_of_lt_of_le (hK k z) hb.size,fun y=>by have:=hF k y;have:=hK k z;omega⟩⟩,hb⟩
end Go.Proofs.YthdohcjingfpoaaGreatDoor.Dk
namespace Go.Proofs.YthdohcjingfpoaaGreatDoor.Dk
open Go.RowKit Qu Go.Maps Zo
variable {W1 W W':World} {b:Nat} {D:Ds} {K K':Nat→Prop}
theorem noB (w:World):EvB w noE noS:=⟨nil_int w,nil_int w,nil_nth w,nil_int w,nil_int w,nil_int w,nil_nth w,nil_alm w⟩
abbrev noN:ByteArray:=⟨#[]⟩
theorem noN_len:noN.size≤maxLen:=by decide
theorem wd_put (e:Evt) (s:Evs) (h:Wd W1 W b D K) (g:Gd D) (hT:Tab W1) (hv:EvB W1 e s):Calls Tryz.prog 8 #[.pointer (some ⟨b,0,none⟩),.agg (askC 1 e s noN zq 0)] W (WdA W1 W b (D.put e) (putF D e) [] K):=by
 have:=wd_do 1 e s noN zq 0 h g hT hv noN_len
 rwa [show D.step 1 e noN zq 0=D.put e from if_pos rfl,show stF D 1 e noN zq 0=putF D e from if_pos rfl,show stL D 1 0=[] from if_neg (by decide)] at this
theorem wd_drop (nm:ByteArray) (hn:nm.size≤maxLen) (h:Wd W1 W b D K) (g:Gd D) (hT:Tab W1):Calls Tryz.prog 8 #[.pointer (some ⟨b,0,none⟩),.agg (askC 2 noE noS nm zq 0)] W (WdA W1 W b (if hasE nm D.ev=true then D.drop nm else D) (if hasE nm D.ev=true then 0 else 5) [] K):=by
 have:=wd_do 2 noE noS nm zq 0 h g hT (noB W1) hn
 rwa [show D.step 2 noE nm zq 0=(if hasE nm D.ev=true then D.drop nm else D) by unfold Ds.step;rw [if_neg (by decide),if_pos rfl],show stF D 2 noE nm zq 0=(if hasE nm D.ev=true then 0 else 5) by unfold stF;rw [if_neg (by decide),if_pos rfl],show stL D 2 0=[] from if_neg (by decide)] at this
theorem wd_tick (n:Int) (h:Wd W1 W b D K) (g:Gd D) (hT:Tab W1):Calls Tryz.prog 8 #[.pointer (some ⟨b,0,none⟩),.agg (askC 3 noE noS noN zq n)] W (WdA W1 W b (D.tick n) (ticF D n) (ticL D n) K):=by
 have:=wd_do 3 noE noS noN zq n h g hT (noB W1) noN_len
 rwa [show D.step 3 noE noN zq n=D.tick n by unfold Ds.step;rw [if_neg (by decide),if_neg (by decide),if_pos rfl],show stF D 3 noE noN zq n=ticF D n by unfold stF;rw [if_neg (by decide),if_neg (by decide),if_pos rfl],show stL D 3 n=ticL D n from if_pos rfl] at this
theorem wd_done (r:Rq) (h:Wd W1 W b D K) (g:Gd D) (hT:Tab W1):Calls Tryz.prog 8 #[.pointer (some ⟨b,0,none⟩),.agg (askC 4 noE noS noN r 0)] W (WdA W1 W b (D.don r) (donF D.rung r) [] K):=by
 have:=wd_do 4 noE noS noN r 0 h g hT (noB W1) noN_len
 rwa [show D.step 4 noE noN r 0=D.don r by unfold Ds.step;rw [if_neg (by decide),if_neg (by decide),if_neg (by decide),if_pos rfl],show stF D 4 noE noN r 0=donF D.rung r by unfold stF;rw [if_neg (by decide),if_neg (by decide),if_neg (by decide),if_pos rfl],show stL D 4 0=[] from if_neg (by decide)] at this
theorem wd_snooze (r:Rq) (n:Int) (h:Wd W1 W b D K) (g:Gd D) (hT:Tab W1):Calls Tryz.prog 8 #[.pointer (some ⟨b,0,none⟩),.agg (askC 5 noE noS noN r n)] W (WdA W1 W b (D.snooze r n) (snzF D r n) [] K):=by
 have:=wd_do 5 noE noS noN r n h g hT (noB W1) noN_len
 rwa [show D.step 5 noE noN r n=D.snooze r n by unfold Ds.step;rw [if_neg (by decide),if_neg (by decide),if_neg (by decide),if_neg (by decide),if_pos rfl],show stF D 5 noE noN r n=snzF D r n by unfold stF;rw [if_neg (by decide),if_neg (by decide),if_neg (by decide),if_neg (by decide),if_pos rfl],show stL D 5 n=[] from if_neg (by decide)] at this
theorem put_one {a:Int} {l:List (Int × Int)} {v:Evt} (h:putF (newD a l) v=0):(newD a l).put v=⟨a,l,[ownE v],0,[],[]⟩:=by
 unfold Ds.put
 rw [if_pos h]
 rfl
theorem tick_one {D:Ds} {n:Int} (h:ticF D n=0) (hz:D.now=0):D.tick n={ D with now:=n }∧1≤n:=by
 refine ⟨by unfold Ds.tick;rw [if_pos h,if_pos hz],?_⟩
 obtain ⟨q,_⟩:=ticF_zero h
 obtain ⟨q1,_⟩:=tkF_zero.1 q
 exact (ist_iff.1 q1).1
theorem tick_two {D:Ds} {n:Int} (h:ticF D n=0) (hz:¬ D.now=0):D.tick n={ D with rung:=D.rung++duL D n,snz:=laterQ D.snz n,now:=n }∧ticL D n=duL D n∧duF D n=0∧D.now<n∧n≤157785119:=by
 obtain ⟨q,q2⟩:=ticF_zero h
 obtain ⟨q1,q3,_⟩:=tkF_zero.1 q
 have q4:=ist_iff.1 q1
 rcases q2 with q2 | ⟨_,q5,_⟩
 ·exact absurd q2 hz
 ·exact ⟨by unfold Ds.tick;rw [if_pos h,if_neg hz],if_pos ⟨h,hz⟩,q5,q3,q4.2⟩
theorem duL_name {D:Ds} {n:Int} {v:Evt} (he:D.ev=[ownE v]) (hs:∀ z∈D.snz,z.2.1=v.name) {z:Rq} (hz:z∈duL D n):z.2.1=v.name:=by
 by_cases hf:duF D n=0
 ·rcases (duL_mem hf).1 hz with q | ⟨e,q1,q2⟩
  ·exact hs z (dueQ_mem.1 q).1
  ·rw [he] at q1
   have:=List.mem_singleton.1 q1
   subst this
   exact (rgR_mem q2).2.2
 ·unfold duL at hz
  rw [if_neg hf] at hz
  cases hz
theorem drp_len {M:List Rq} {r:Rq} (h:Rs M) (hr:r∈M):(drp M r).length=M.length - 1:=by
 induction M with
 | nil=>cases hr
 | cons x M ih=>
   have h':=List.pairwise_cons.1 h
   unfold drp
   rw [List.filter_cons]
   by_cases q:oc x r=0
   ·have e:=(oc_cm.eq _ _).1 q
    subst e
    have:List.filter (fun y=>!decide (oc y x=0)) M=M:=by
     rw [List.filter_eq_self]
     intro y hy
     have:=h'.1 y hy
     have:¬ oc y x=0:=fun z=>by
      have e:=(oc_cm.eq _ _).1 z
      subst e
      rw [oc_self] at this
      omega
     simpa using this
    rw [this]
    simp [q]
   ·rcases List.mem_cons.1 hr with z | z
    ·exact absurd ((oc_cm.eq _ _).2 z.symm) q
    ·have:=ih h'.2 z
     unfold drp at this
     have lp:0<M.length:=List.length_pos_of_mem z
     simp [q,this]
     omega
theorem has_yes {M:List Rq} {r:Rq} (h:r∈M):hasQ M r=true:=hasQ_iff.2 h
theorem has_no {M:List Rq} {r:Rq} (h:r ∉ M):hasQ M r=false:=hasQ_not.2 h
structure Sz (v:Evt) (t:Int) (L:List Rq) (D:Ds):Prop where
 gd:Gd D
 ev:D.ev=[ownE v]
 now:D.now=t
 one:1≤t
 last:t≤157785119
 rung:D.rung=L
 snz:D.snz=[]
 name:∀ z∈L,z.2.1=v.name
theorem sz_of {v:Evt} {nw t:Int} (h1:putF (newD 0 []) v=0) (h2:ticF ((newD 0 []).put v) nw=0) (h3:ticF (((newD 0 []).put v).tick nw) t=0):Sz v t (ticL (((newD 0 []).put v).tick nw) t) ((((newD 0 []).put v).tick nw).tick t):=by
 have g0:Gd (newD 0 []):=Gd.new rfl
 have g1:=g0.put v
 have g2:=g1.tick nw
 have g3:=g2.tick t
 have e1:=put_one h1
 obtain ⟨e2,p2⟩:=tick_one h2 (by rw [e1])
 have hn:((newD 0 []).put v).tick nw=⟨0,[],[ownE v],nw,[],[]⟩:=by rw [e2,e1]
 obtain ⟨e3,e4,e5,e6,e7⟩:=tick_two h3 (by rw [hn];show ¬ nw=0;omega)
 rw [hn] at g2 e3 e4 e6 ⊢
 rw [e4]
 have e6':nw<t:=e6
 refine ⟨by rw [← hn];exact g3,by rw [e3],by rw [e3],by omega,e7,by rw [e3];rfl,by rw [e3];rfl,fun z hz=>duL_name rfl (fun _ h=>by cases h) hz⟩
theorem sz_bad {v:Evt} {t m:Int} {L:List Rq} {D:Ds} {r:Rq} (h:Sz v t L D) (hr:r∈L) (hf:¬ snzF D r m=0):m<1∨(¬ m<1∧10000<m)∨(¬ m<1∧¬ 10000<m∧150000000<t):=by
 by_cases q1:m<1
 ·exact Or.inl q1
 by_cases q2:10000<m
 ·exact Or.inr (Or.inl ⟨q1,q2⟩)
 refine Or.inr (Or.inr ⟨q1,q2,Classical.byContradiction (fun q3=>hf ?_)⟩)
 have hi:ist (D.now + m)=true:=ist_iff.2 (by have:=h.now;have:=h.one;omega)
 unfold snzF
 rw [if_neg (by rw [hi];rintro (z | z | z) <;> first | exact q1 z | exact q2 z | cases z),if_neg (by rw [h.rung,has_yes hr];decide),if_neg (by rw [h.snz];show ¬ false=true;decide),if_neg (by rw [h.snz];show ¬ 400≤0;decide)]
theorem sz_good {v:Evt} {t m:Int} {L:List Rq} {D:Ds} {r:Rq} (h:Sz v t L D) (hf:snzF D r m=0):D.snooze r m={ D with rung:=drp L r,snz:=[(t + m,r.2)] }∧1≤m∧m≤10000:=by
 refine ⟨?_,?_⟩
 ·unfold Ds.snooze
  rw [if_pos hf,h.rung,h.snz]
  show { D with rung:=drp L r,snz:=[ltr D r m] }=_
  rw [show ltr D r m=(t + m,r.2) by unfold ltr;rw [h.now]]
 ·unfold snzF at hf
  split at hf
  ·cases hf
  ·rename_i q
   constructor
   ·exact Classical.byContradiction (fun z=>q (Or.inl (by omega)))
   ·exact Classical.byContradiction (fun z=>q (Or.inr (Or.inl (by omega))))
theorem sz_again {v:Evt} {t m:Int} {L:List Rq} {D:Ds} {r:Rq} (h:Sz v t L D) (hr:r∈L) (hf:snzF D r m=0) (hk:ticF (D.snooze r m) (t + m)=0) :
 hasQ (ticL (D.snooze r m) (t + m)) (t + m,r.2)=true∧hasQ ((D.snooze r m).tick (t + m)).rung (t + m,r.2)=true∧((D.snooze r m).tick (t + m)).snz=[]∧((D.snooze r m).tick (t + m)).ev=[ownE v]∧∀ z∈((D.snooze r m).tick (t + m)).rung,z.2.1=v.name:=by
 obtain ⟨e1,m1,m2⟩:=sz_good h hf
 have g1:Gd (D.snooze r m):=h.gd.snooze r m
 rw [e1] at g1 hk ⊢
 have ho:=h.one
 obtain ⟨e2,e3,e4,e5,e6⟩:=tick_two hk (by show ¬ D.now=0;rw [h.now];omega)
 rw [e2,e3]
 have hs:((t + m,r.2):Rq)∈duL { D with rung:=drp L r,snz:=[(t + m,r.2)] } (t + m):=(duL_mem e4).2 (Or.inl (dueQ_mem.2 ⟨List.mem_singleton.2 rfl,Int.le_refl _⟩))
 have hnm:∀ z∈duL { D with rung:=drp L r,snz:=[(t + m,r.2)] } (t + m),z.2.1=v.name:=fun z hz=>duL_name (D:={ D with rung:=drp L r,snz:=[(t + m,r.2)] }) h.ev (fun y hy=>by rw [List.mem_singleton.1 hy];exact h.name r hr) hz
 refine ⟨has_yes hs,has_yes (List.mem_append.2 (Or.inr hs)),?_,h.ev,fun z hz=>?_⟩
 ·show laterQ [((t + m,r.2):Rq)] (t + m)=[]
  unfold laterQ
  simp
 ·rcases List.mem_append.1 hz with q | q
  ·exact h.name z (drp_mem.1 q).1
  ·exact hnm z q
theorem don_twice (D:Ds) (r:Rq):donF (D.don r).rung r=5:=by
 unfold donF
 rw [if_neg]
 show ¬ hasQ (drp D.rung r) r=true
 rw [has_no (fun q=>(drp_mem.1 q).2 rfl)]
 decide
theorem drop_all {v:Evt} {D:Ds} (he:D.ev=[ownE v]) (hn:∀ z∈D.rung,z.2.1=v.name):hasE v.name D.ev=true∧(D.drop v.name).rung=[]∧(D.drop v.name).ev=[]:=by
 refine ⟨by rw [he];simp [hasE,ownE],?_,?_⟩
 ·show D.rung.filter (fun x=>!decide (x.2.1=v.name))=[]
  rw [List.filter_eq_nil_iff]
  intro z hz
  simp [hn z hz]
 ·show outE id v.name D.ev=[]
  rw [he]
  simp [outE,ownE]
end Go.Proofs.YthdohcjingfpoaaGreatDoor.Dk
