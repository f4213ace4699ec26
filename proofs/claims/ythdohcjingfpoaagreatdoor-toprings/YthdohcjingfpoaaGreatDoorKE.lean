/-
  What is proved here: what (*desk.Desk).snooze answers (a contract over the translation).
  What is proved here: what desk.ownCopy answers (a contract over the translation).
-/
import Derived.Test.YthdohcjingfpoaaGreatDoorKD
import Derived.Test.YthdohcjingfpoaaGreatDoorQB
namespace Go.Proofs.YthdohcjingfpoaaGreatDoor.Dk
open Go.RowKit Qu Go.Maps
variable {w w' W:World} {b:Nat} {D:Ds} {R:Raw}
abbrev ltr (D:Ds) (r:Rq) (n:Int):Rq:=(D.now + n,r.2)
def snzF (D:Ds) (r:Rq) (n:Int):Int:=if n<1∨10000<n∨ist (D.now + n)=false then 1 else if hasQ D.rung r=false then 5 else if hasQ D.snz (ltr D r n)=true then 7 else if 400≤D.snz.length then 4 else 0
def Ds.snooze (D:Ds) (r:Rq) (n:Int):Ds:=if snzF D r n=0 then { D with rung:=drp D.rung r,snz:=put D.snz (ltr D r n) } else D
theorem blw_row {n0 g:Nat} {w w':World} (h:Below n0 w w') (hg:n0≤g) (c:Array Value):Below n0 w (w'.setRow g c):=
 ⟨h.os,h.tape,h.output,by simpa using h.size,fun k hk=>by rw [setRow_other _ _ _ _ (by omega)];exact h.block k hk⟩
theorem turned {w2 W5:World} {r:Rq} {t:Int} {C:List Value} {T:TypeId} (h:W5=(w2.alloc (.cells C.toArray T)).setRow w2.heap.size (encQ r).toArray) (q:QBx W5 w2.heap.size r) :
 Below w2.heap.size w2 (W5.setCell ⟨w2.heap.size,0,none⟩ (.int .i64 t))∧QBx (W5.setCell ⟨w2.heap.size,0,none⟩ (.int .i64 t)) w2.heap.size (t,r.2):=by
 have O:∀ (k:Nat) (v:Value),¬ 0=k→W5.cell? ⟨w2.heap.size,k,none⟩=some v→(W5.setCell ⟨w2.heap.size,0,none⟩ (.int .i64 t)).cell? ⟨w2.heap.size,k,none⟩=some v:=fun k v hk z=>(World.cell?_setCell_other _ _ _ _ (fun e=>hk (by simpa using congrArg Addr.off e))).trans z
 obtain ⟨q0,q1,q2,q3,q4⟩:=q
 refine ⟨?_,World.cell?_setCell_same _ _ _ q0,O _ _ (by decide) q1,O _ _ (by decide) q2,O _ _ (by decide) q3,O _ _ (by decide) q4⟩
 rw [h]
 exact (blw_row (below_alloc _ _) (Nat.le_refl _) _).setCell (Nat.le_refl _) _
theorem turned1 {w2 W5:World} {r:Rq} {C:List Value} {T:TypeId} (h:W5=(w2.alloc (.cells C.toArray T)).setRow w2.heap.size (encQ r).toArray):Below w2.heap.size w2 W5∧W5.frozen? ⟨w2.heap.size,0,none⟩=false:=by
 rw [h]
 refine ⟨blw_row (below_alloc _ _) (Nat.le_refl _) _,?_⟩
 have:=setRow_heap (w2.alloc (.cells C.toArray T)) w2.heap.size C.toArray (encQ r).toArray T (0,0) (heap_alloc_new w2 _)
 unfold World.frozen?
 rw [this]
 simp
set_option maxRecDepth 100000 in
set_option maxHeartbeats 2000000 in
theorem dsnooze_any (r:Rq) (n:Int) (h:Dm w b D R) (hr:Rs D.rung) (hs:Rs D.snz) (h1:D.rung.length≤1000000) (h2:D.snz.length≤1000000) (h3:0≤D.now) (h4:D.now≤157785119) :
 Calls Tryz.prog 33 #[.pointer (some ⟨b,0,none⟩),agQ r,.int .i64 n] w (DoA (snzF D r n) (D.snooze r n) b R w):=by
 obtain ⟨W0,hW0⟩:∃ W0,W0=w.alloc (.cells #[.int .i64 r.1,.string r.2.1,.int .i64 r.2.2.1,.int .i64 r.2.2.2.1,.int .i64 r.2.2.2.2] 45):=⟨_,rfl⟩
 have b0:Below w.heap.size w W0:=by rw [hW0];exact below_alloc _ _
 have x0:QBx W0 w.heap.size r:=by rw [hW0];exact QBx.new w r _
 have HD:Hid (∀ X,Below W0.heap.size W0 X→Dm X b D R∧Kd b R R w X):=Lib.hid (fun X q=>⟨(h.onB b0).onB q,(Kd.of_below b R b0).trans (Kd.of_below b R q)⟩)
 have HC:Hid (∀ X,Below W0.heap.size W0 X→X.cell? ⟨b,3,none⟩=some (.int .i64 D.now)∧X.cell? ⟨b,4,none⟩=some R.ru∧X.cell? ⟨b,5,none⟩=some R.sn∧X.cell? ⟨w.heap.size,0,none⟩=some (.int .i64 r.1)∧X.cell? ⟨w.heap.size,1,none⟩=some (.string r.2.1)∧X.cell? ⟨w.heap.size,2,none⟩=some (.int .i64 r.2.2.1)∧X.cell? ⟨w.heap.size,3,none⟩=some (.int .i64 r.2.2.2.1)∧X.cell? ⟨w.heap.size,4,none⟩=some (.int .i64 r.2.2.2.2)):=Lib.hid (fun X q=>by
  obtain ⟨_,_,_,k3,k4,k5⟩:=(HD.out X q).1.cells
  exact ⟨k3,k4,k5,x0.on q⟩)
 have KT:Hid (∀ X,Calls Tryz.prog 51 #[.int .i64 (D.now + n)] X fun e w'=>e=.returned (.bool (ist (D.now + n)))∧w'=X):=Lib.hid (fun X=>isTime_any _ X)
 have SAME:Hid (∀ k,snzF D r n=k→¬ k=0→∀ X,Below W0.heap.size W0 X→DoA (snzF D r n) (D.snooze r n) b R w (.returned (fault k)) X):=Lib.hid (fun k hk hn X q=>by
  subst hk
  refine ⟨rfl,R,?_,(HD.out X q).2⟩
  unfold Ds.snooze
  rw [if_neg hn]
  exact (HD.out X q).1)
 have HW:=Lib.hid hW0
 obtain ⟨c3,c4,c5,x1,x2,x3,x4,x5⟩:=HC.out W0 (Below.refl _ _)
 have bl:b<w.heap.size:=h.lt
 have bl0:b<W0.heap.size:=cell_in c3
 have bl1:w.heap.size<W0.heap.size:=cell_in x1
 by_cases hT:n<1∨10000<n∨ist (D.now + n)=false
 ·have e1:snzF D r n=1:=by unfold snzF;rw [if_pos hT]
  have N1:=Lib.hid (SAME.out 1 e1 (by decide) W0 (Below.refl _ _))
  generalize DoA (snzF D r n) (D.snooze r n) b R w=PP at N1 ⊢
  have hT2:n<1∨(¬ n<1∧10000<n)∨(¬ n<1∧¬ 10000<n∧ist (D.now + n)=false):=by
   rcases hT with q | q | q
   ·exact Or.inl q
   ·by_cases z:n<1
    ·exact Or.inl z
    ·exact Or.inr (Or.inl ⟨z,q⟩)
   ·by_cases z:n<1
    ·exact Or.inl z
    ·by_cases y:10000<n
     ·exact Or.inr (Or.inl ⟨z,y⟩)
     ·exact Or.inr (Or.inr ⟨z,y,q⟩)
  clear h hr hs hW0 b0 x0 e1 SAME HD hT
  rcases hT2 with q1 | ⟨q1,q2⟩ | ⟨q1,q2,q3⟩
  ·clear HC c4 c5 x1 x2 x3 x4 x5
   go_enter Tryz.func33,Tryz.ntmps33
   go_upto_region 1 with fail
   rw [← HW.out]
   go_wp2
   exact N1.out
  ·clear HC c4 c5 x1 x2 x3 x4 x5
   go_enter Tryz.func33,Tryz.ntmps33
   go_upto_region 1 with fail
   rw [← HW.out]
   go_wp2
   exact N1.out
  ·have q0:IntKind.i64.wrap (D.now + n)=D.now + n:=by rw [IntKind.wrap_i64];omega
   rw [q3] at KT
   clear HC c4 c5 x1 x2 x3 x4 x5
   go_enter Tryz.func33,Tryz.ntmps33
   go_upto_region 1 with fail
   rw [← HW.out]
   go_wp2_with (go_at_call 51;refine (KT.out _).mono ?_;rintro e w2 ⟨rfl,hw⟩;replace hw:=hw.symm;subst hw)
   exact N1.out
 have q1:¬ n<1:=fun q=>hT (Or.inl q)
 have q2:¬ 10000<n:=fun q=>hT (Or.inr (Or.inl q))
 have hI:ist (D.now + n)=true:=by
  rcases hi:ist (D.now + n) with _ | _
  ·exact absurd (Or.inr (Or.inr hi)) hT
  ·rfl
 have q0:IntKind.i64.wrap (D.now + n)=D.now + n:=by rw [IntKind.wrap_i64];omega
 rw [hI] at KT
 have KB:Hid (∀ X,Below W0.heap.size W0 X→Calls Tryz.prog 71 #[R.ru,agQ r] X fun e w'=>∃ p:Nat,e=.returned (.tuple #[.int .i64 p,.bool (hasQ D.rung r)])∧Below W0.heap.size W0 w'):=Lib.hid (fun X q=>
  (dfind_any D.rung r R.ru X (HD.out X q).1.rung.rd hr h1).mono (fun e w' ⟨p,h1,h2,h3⟩=>⟨p,h2,q.trans (h3.mono q.size)⟩))
 have HS:Hid (∀ X,Below W0.heap.size W0 X→(fun X=>X.cell? ⟨b,4,none⟩=some R.ru∧X.cell? ⟨w.heap.size,0,none⟩=some (.int .i64 r.1)∧X.cell? ⟨w.heap.size,1,none⟩=some (.string r.2.1)∧X.cell? ⟨w.heap.size,2,none⟩=some (.int .i64 r.2.2.1)∧X.cell? ⟨w.heap.size,3,none⟩=some (.int .i64 r.2.2.2.1)∧X.cell? ⟨w.heap.size,4,none⟩=some (.int .i64 r.2.2.2.2)) X):=Lib.hid (fun X q=>⟨(HC.out X q).2.1,(HC.out X q).2.2.2⟩)
 rcases hB:hasQ D.rung r with _ | _
 ·have e1:snzF D r n=5:=by unfold snzF;rw [if_neg hT,if_pos hB]
  have N1:=Lib.hid (SAME.out 5 e1 (by decide))
  rw [hB] at KB
  generalize DoA (snzF D r n) (D.snooze r n) b R w=PP at N1 ⊢
  clear h hr hs hW0 b0 x0 e1 SAME HD hT HC
  go_enter Tryz.func33,Tryz.ntmps33
  go_upto_region 1 with fail
  rw [← HW.out]
  go_upto_region 3 with (go_at_call 51;refine (KT.out _).mono ?_;rintro e w2 ⟨rfl,hw⟩;replace hw:=hw.symm;subst hw)
  go_region_held3 (fun X=>X.cell? ⟨b,4,none⟩=some R.ru∧X.cell? ⟨w.heap.size,0,none⟩=some (.int .i64 r.1)∧X.cell? ⟨w.heap.size,1,none⟩=some (.string r.2.1)∧X.cell? ⟨w.heap.size,2,none⟩=some (.int .i64 r.2.2.1)∧X.cell? ⟨w.heap.size,3,none⟩=some (.int .i64 r.2.2.2.1)∧X.cell? ⟨w.heap.size,4,none⟩=some (.int .i64 r.2.2.2.2))
   (first | exact HS.out _ (Below.drew (Below.refl _ W0)) | exact HS.out _ hb6)
   (first | (go_at_call 71;refine (KB.out _ (Below.drew (Below.refl _ W0))).mono ?_;rintro e w2 ⟨p,rfl,hb6⟩))
  go_wp2
  exact N1.out _ hb6
 rw [hB] at KB
 have hmr:=hasQ_iff.1 hB
 have hnB:¬ hasQ D.rung r=false:=by rw [hB];decide
 obtain ⟨va,vc,hsn,_⟩:=h.snz.rd
 have KB2:Hid (∀ X,Below W0.heap.size W0 X→Calls Tryz.prog 71 #[.slice va D.snz.length vc,agQ (ltr D r n)] X fun e w'=>∃ p:Nat,Hid (Fnd D.snz (ltr D r n) p)∧e=.returned (.tuple #[.int .i64 p,.bool (hasQ D.snz (ltr D r n))])∧Below W0.heap.size W0 w'∧Below X.heap.size X w'):=Lib.hid (fun X q=>
  (dfind_any D.snz (ltr D r n) _ X (hsn ▸ (HD.out X q).1.snz.rd) hs h2).mono (fun e w' ⟨p,h1,h2,h3⟩=>⟨p,Lib.hid h1,h2,q.trans (h3.mono q.size),h3⟩))
 have C7:Hid (hasQ D.snz (ltr D r n)=true→snzF D r n=7):=Lib.hid (fun q=>by unfold snzF;rw [if_neg hT,if_neg hnB,if_pos q])
 have C4:Hid (hasQ D.snz (ltr D r n)=false→400≤D.snz.length→snzF D r n=4):=Lib.hid (fun q k=>by unfold snzF;rw [if_neg hT,if_neg hnB,if_neg (by rw [q];decide),if_pos k])
 have KI:Hid (hasQ D.snz (ltr D r n)=false→¬ 400≤D.snz.length→∀ p:Nat,Fnd D.snz (ltr D r n) p→∀ X,Below W0.heap.size W0 X→Calls Tryz.prog 73 #[.slice va D.snz.length vc,.int .i64 p,.slice (some ⟨X.heap.size,0,none⟩) 1 1] (X.drew.alloc (.cells #[.int .i64 (D.now + n),.string r.2.1,.int .i64 r.2.2.1,.int .i64 r.2.2.2.1,.int .i64 r.2.2.2.2] 45)) fun e w3=>∃ a k c,e=.returned (.slice a k c)∧b<w3.heap.size∧w3.cell? ⟨b,5,none⟩=some (.slice va D.snz.length vc)∧w3.frozen? ⟨b,5,none⟩=false∧Hid (QBx (w3.setCell ⟨b,5,none⟩ (.slice a k c)) w.heap.size r)∧Hid (b<(w3.setCell ⟨b,5,none⟩ (.slice a k c)).heap.size)∧Hid (Calls Tryz.prog 32 #[.pointer (some ⟨b,0,none⟩),agQ r] (w3.setCell ⟨b,5,none⟩ (.slice a k c)) (fun e w'=>e=.returned .nilIface∧Hid (DoA (snzF D r n) (D.snooze r n) b R w (.returned .nilIface) w')))):=Lib.hid (fun hq hk p hf X q=>by
  have e1:snzF D r n=0:=by unfold snzF;rw [if_neg hT,if_neg hnB,if_neg (by rw [hq];decide),if_neg hk]
  have hno:=hasQ_not.1 hq
  obtain ⟨Y,hY⟩:∃ Y,Y=X.drew.alloc (.cells #[.int .i64 (D.now + n),.string r.2.1,.int .i64 r.2.2.1,.int .i64 r.2.2.2.1,.int .i64 r.2.2.2.2] 45):=⟨_,rfl⟩
  have qY:Below X.heap.size X Y:=by rw [hY];exact Below.alloc (Below.drew (Below.refl _ _)) (Nat.le_refl _) _
  have qW:Below W0.heap.size W0 Y:=q.trans (qY.mono q.size)
  obtain ⟨dY,kY⟩:=HD.out Y qW
  have hL:Lies Y X.heap.size (encQ (ltr D r n)):=by rw [hY];exact heap_alloc_new X.drew _
  have hne:R.sn.ownBlock≠some X.heap.size:=fun e=>by have:=((HD.out X q).1.snz.lt _ e).2;omega
  rw [← hY,← hsn]
  refine (insert_any D.snz (ltr D r n) p 0 X.heap.size _ Y dY.snz hf.le h2 (Nat.zero_le _) hL hne).mono (fun e w3 ⟨u,he,g1,g2,g3⟩=>?_)
  rw [put_ins hs hf hno] at g1
  obtain ⟨a,c,hu,_⟩:=g1.rd
  obtain ⟨q1,q2,q3,q4⟩:=dY.putS g3 g1 (fun g hg=>by
   rcases g2 with z | z
   ·exact Or.inl (z.symm.trans hg)
   ·rw [z] at hg;injection hg with hg;exact Or.inr (by omega))
  have hx:QBx (w3.setCell ⟨b,5,none⟩ u) w.heap.size r:=by
   have y0:=x0.on qW
   have eb:(w3.setCell ⟨b,5,none⟩ u).heap[w.heap.size]?=Y.heap[w.heap.size]?:=q4.block _ y0.lt (fun z=>by
    have:=h.flt z
    omega)
   exact ⟨(World.cell?_of_block (a:=⟨w.heap.size,0,none⟩) eb).trans y0.1,(World.cell?_of_block (a:=⟨w.heap.size,1,none⟩) eb).trans y0.2.1,(World.cell?_of_block (a:=⟨w.heap.size,2,none⟩) eb).trans y0.2.2.1,(World.cell?_of_block (a:=⟨w.heap.size,3,none⟩) eb).trans y0.2.2.2.1,(World.cell?_of_block (a:=⟨w.heap.size,4,none⟩) eb).trans y0.2.2.2.2⟩
  have bb:=cell_in q1
  subst hu
  refine ⟨a,_,c,he,bb,q1,q2,Lib.hid hx,Lib.hid q3.lt,Lib.hid ((ddone_any r q3 hr h1).mono (fun e w' ⟨z1,R',z2,z3⟩=>⟨?_,Lib.hid ⟨by rw [e1];rfl,R',?_,(kY.trans q4).trans z3⟩⟩))⟩
  ·rw [z1]
   unfold donF
   rw [if_pos hB]
   rfl
  ·unfold Ds.snooze
   rw [if_pos e1]
   exact z2)
 have HC5:Hid (∀ X,Below W0.heap.size W0 X→X.cell? ⟨b,3,none⟩=some (.int .i64 D.now)∧X.cell? ⟨b,5,none⟩=some (.slice va D.snz.length vc)∧b<X.heap.size∧X.cell? ⟨w.heap.size,0,none⟩=some (.int .i64 r.1)∧X.cell? ⟨w.heap.size,1,none⟩=some (.string r.2.1)∧X.cell? ⟨w.heap.size,2,none⟩=some (.int .i64 r.2.2.1)∧X.cell? ⟨w.heap.size,3,none⟩=some (.int .i64 r.2.2.2.1)∧X.cell? ⟨w.heap.size,4,none⟩=some (.int .i64 r.2.2.2.2)):=Lib.hid (fun X q=>⟨(HC.out X q).1,by rw [(HC.out X q).2.2.1,hsn],cell_in (HC.out X q).1,(HC.out X q).2.2.2⟩)
 have QX:=Lib.hid q1
 have QY:=Lib.hid q2
 generalize DoA (snzF D r n) (D.snooze r n) b R w=PP at SAME KI ⊢
 generalize snzF D r n=SZ at SAME C7 C4
 generalize D.snz.length=ln at C4 KI HC5 KB2
 clear h hr hs hW0 b0 x0 HD hT HC hB hnB hmr hsn h1 h2
 go_enter Tryz.func33,Tryz.ntmps33
 go_upto_region 1 with fail
 rw [← HW.out]
 go_upto_region 3 with (go_at_call 51;refine (KT.out _).mono ?_;rintro e w2 ⟨rfl,hw⟩;replace hw:=hw.symm;subst hw)
 go_region_held3 (fun X=>X.cell? ⟨b,4,none⟩=some R.ru∧X.cell? ⟨w.heap.size,0,none⟩=some (.int .i64 r.1)∧X.cell? ⟨w.heap.size,1,none⟩=some (.string r.2.1)∧X.cell? ⟨w.heap.size,2,none⟩=some (.int .i64 r.2.2.1)∧X.cell? ⟨w.heap.size,3,none⟩=some (.int .i64 r.2.2.2.1)∧X.cell? ⟨w.heap.size,4,none⟩=some (.int .i64 r.2.2.2.2))
  (first | exact HS.out _ (Below.drew (Below.refl _ W0)) | exact HS.out _ hb6)
  (first | (go_at_call 71;refine (KB.out _ (Below.drew (Below.refl _ W0))).mono ?_;rintro e w2 ⟨p,rfl,hb6⟩))
 clear c3 c4 c5 x1 x2 x3 x4 x5 KT KB HS bl0 bl1 HW
 obtain ⟨c3,c5,bl2,x1,x2,x3,x4,x5⟩:=HC5.out w2 hb6
 go_upto_region 8 with (refine ring_store rfl (.tmp 9) (.tmp 41) rfl w2.heap.size r rfl rfl zr5 rfl (heap_alloc_new w2 _) ?_;intro W5 HW5 r5;have R5:=Lib.hid r5;obtain ⟨y1,y2,y3,y4,y5⟩:=r5;obtain ⟨b5,f5⟩:=turned1 HW5.out;obtain ⟨c35,c55,bl5,_⟩:=HC5.out W5 (hb6.trans (b5.mono hb6.size)))
 obtain ⟨b6,r6⟩:=turned (t:=D.now + n) HW5.out R5.out
 have q6:=hb6.trans (b6.mono hb6.size)
 generalize W5.setCell ⟨w2.heap.size,0,none⟩ (.int .i64 (D.now + n))=W6 at b6 r6 q6 ⊢
 have HS2:Hid (∀ X,Below W6.heap.size W6 X→(fun X=>X.cell? ⟨b,5,none⟩=some (.slice va ln vc)∧X.cell? ⟨w2.heap.size,0,none⟩=some (.int .i64 (D.now + n))∧X.cell? ⟨w2.heap.size,1,none⟩=some (.string r.2.1)∧X.cell? ⟨w2.heap.size,2,none⟩=some (.int .i64 r.2.2.1)∧X.cell? ⟨w2.heap.size,3,none⟩=some (.int .i64 r.2.2.2.1)∧X.cell? ⟨w2.heap.size,4,none⟩=some (.int .i64 r.2.2.2.2)) X):=Lib.hid (fun X q=>⟨(HC5.out X (q6.trans (q.mono q6.size))).2.1,r6.on q⟩)
 have K2:Hid (∀ X,Below W6.heap.size W6 X→Calls Tryz.prog 71 #[.slice va ln vc,agQ (ltr D r n)] X fun e w'=>∃ p:Nat,Hid (Fnd D.snz (ltr D r n) p)∧e=.returned (.tuple #[.int .i64 p,.bool (hasQ D.snz (ltr D r n))])∧Below W6.heap.size W6 w'):=Lib.hid (fun X q=>
  (KB2.out X (q6.trans (q.mono q6.size))).mono (fun e w' ⟨p,h1,h2,_,h3⟩=>⟨p,h1,h2,q.trans (h3.mono q.size)⟩))
 obtain ⟨c5,z1,z2,z3,z4,z5⟩:=HS2.out W6 (Below.refl _ _)
 have bl6:b<W6.heap.size:=cell_in c5
 have bl7:w2.heap.size<W6.heap.size:=cell_in z1
 clear c3 x1 x2 x3 x4 x5 y1 y2 y3 y4 y5 f5 c35 c55 bl5 b5 HW5 R5 r6 b6 bl2 KB2
 go_region_held3 (fun X=>X.cell? ⟨b,5,none⟩=some (.slice va ln vc)∧X.cell? ⟨w2.heap.size,0,none⟩=some (.int .i64 (D.now + n))∧X.cell? ⟨w2.heap.size,1,none⟩=some (.string r.2.1)∧X.cell? ⟨w2.heap.size,2,none⟩=some (.int .i64 r.2.2.1)∧X.cell? ⟨w2.heap.size,3,none⟩=some (.int .i64 r.2.2.2.1)∧X.cell? ⟨w2.heap.size,4,none⟩=some (.int .i64 r.2.2.2.2))
  (first | exact HS2.out _ (Below.drew (Below.refl _ W6)) | exact HS2.out _ hb8)
  (first | (go_at_call 71;refine (K2.out _ (Below.drew (Below.refl _ W6))).mono ?_;rintro e w7 ⟨p2,hf,rfl,hb8⟩))
 have q7:=q6.trans (hb8.mono q6.size)
 obtain ⟨-,z1,z2,z3,z4,z5⟩:=HS2.out w7 hb8
 have gl7:w2.heap.size<w7.heap.size:=cell_in z1
 have c57:=(HC5.out w7 q7).2.1
 have bl8:=cell_in c57
 clear c5 bl6 bl7 HS2 K2 q6 hb8 hb6
 rcases hC:hasQ D.snz (ltr D r n) with _ | _
 ·by_cases hk:400≤ln
  ·have N1:=Lib.hid (SAME.out 4 (C4.out hC hk) (by decide) w7 q7)
   clear SAME C4 C7 KI q7
   have hk2:(400:Int)≤(ln:Int):=by omega
   clear hf hC HC5
   go_wp2
   exact N1.out
  ·have K3:=Lib.hid (KI.out hC hk p2 hf.out w7 q7)
   clear SAME C4 C7 KI q7 HC5 hf hC
   have hk2:¬ (400:Int)≤(ln:Int):=by omega
   go_upto_region 13 with fail
   go_region_with (first | (go_at_call 73;refine K3.out.mono ?_;rintro e w8 ⟨a,k,cp,rfl,l8,c8,f8,x8,l9,KD⟩))
   all_goals
    clear K3 z1 z2 z3 z4 z5 gl7 c57 bl8
    go_upto_region 14 with fail
    obtain ⟨x1,x2,x3,x4,x5⟩:=x8.out
    have l10:=l9.out
    have l11:=cell_in x1
    generalize w8.setCell ⟨b,5,none⟩ (.slice a k cp)=W8 at KD x1 x2 x3 x4 x5 l10 l11 ⊢
    clear c8 f8 l8 x8 l9
    go_wp2_with (go_at_call 32;refine KD.out.mono ?_;rintro e w9 ⟨rfl,FI⟩)
    exact FI.out
 ·have N1:=Lib.hid (SAME.out 7 (C7.out hC) (by decide) w7 q7)
  clear SAME C4 C7 KI q7
  go_wp2
  exact N1.out
end Go.Proofs.YthdohcjingfpoaaGreatDoor.Dk
namespace Go.Proofs.YthdohcjingfpoaaGreatDoor.Dk
open Go.RowKit Qu Go.Maps
def ownE (e:Evt):Evt:={ e with text:=⟨#[]⟩ }
theorem rang_set {W:World} {b k:Nat} {L:List Value} {u:Value} (h:W.rangeAt b 0 L) (hk:k<L.length):(W.setCell ⟨b,k,none⟩ u).rangeAt b 0 (L.set k u):=fun j v hv=>by
 rw [Nat.zero_add]
 by_cases q:j=k
 ·subst q
  rw [List.getElem?_set_self hk] at hv
  injection hv with hv
  subst hv
  have:=h j L[j] (List.getElem?_eq_getElem hk)
  rw [Nat.zero_add] at this
  exact World.cell?_setCell_same _ _ _ this
 ·rw [List.getElem?_set_ne (fun e=>q e.symm)] at hv
  have:=h j v hv
  rw [Nat.zero_add] at this
  exact (World.cell?_setCell_other _ _ _ _ (fun e=>q ((by simpa using congrArg Addr.off e:k=j).symm))).trans this
theorem eo_at {W:World} {b:Nat} {e e':Evt} {s s':Evs} (h:EOwn W b e s) {k:Nat} {u:Value} (hk:k<17) (hc:(ecells e' s').toList=(ecells e s).toList.set k u):EOwn (W.setCell ⟨b,k,none⟩ u) b e' s':=
 ⟨EBox.of_range (by rw [hc];exact rang_set h.1.range hk),fun o=>by rw [World.frozen?_setCell];exact h.2 o⟩
theorem eo_other {W:World} {b g k:Nat} {e:Evt} {s:Evs} {u:Value} (h:EOwn W b e s) (hg:g≠b):EOwn (W.setCell ⟨g,k,none⟩ u) b e s:=
 ⟨EBox.of_range (fun j v hv=>(World.cell?_setCell_other _ _ _ _ (fun e=>hg (by simpa using congrArg Addr.block e))).trans (h.1.range j v hv)),fun o=>by rw [World.frozen?_setCell];exact h.2 o⟩
theorem eo_there {W:World} {b:Nat} {e:Evt} {s:Evs} (h:EOwn W b e s):W.there b 0 17:=fun j hj=>by
 refine ⟨?_,h.2 _⟩
 have:(ecells e s).toList[j]?=some (ecells e s).toList[j]:=List.getElem?_eq_getElem hj
 rw [h.1.range j _ this]
 rfl
theorem setCells_other (b:Nat):∀ (vs:List Value) (o:Nat) (W:World) {k:Nat},k≠b→(W.setCells b o vs).heap[k]?=W.heap[k]?
 | [],_,_,_,_=>rfl
 | v :: r,o,W,_,h=>(setCells_other b r (o + 1) (W.setCell ⟨b,o,none⟩ v) h).trans (set_other W b o v h)
theorem setCells_sz (b:Nat):∀ (vs:List Value) (o:Nat) (W:World),(W.setCells b o vs).heap.size=W.heap.size
 | [],_,_=>rfl
 | v :: r,o,W=>(setCells_sz b r (o + 1) (W.setCell ⟨b,o,none⟩ v)).trans (by simp)
theorem ev_lay {ops:Array Oper} {rest:List Oper} {op:Oper} {a:Act} {W:World} {Q:Exit→Act→World→Prop} (hgd:op.guard=none) (x y:Operand) (ho:op.op=.store 40 x y)
 (b:Nat) (e0:Evt) (s0:Evs) (hW:EOwn W b e0 s0) (e:Evt) (s:Evs) (hs:(ecells e s).all (·.oneCell')=true) (hx:a.eval x=.pointer (some ⟨b,0,none⟩)) (hy:a.eval y=.agg (ecells e s))
 (h:∀ W',EBox W' b e s→(∀ k,k≠b→W'.heap[k]?=W.heap[k]?)→W'.heap.size=W.heap.size→W'.os=W.os→W'.tape=W.tape→W'.output=W.output→wpList Tryz.prog ops Q rest (a.put op.dst undef) W'):wpList Tryz.prog ops Q (op :: rest) a W:=by
 have ht:W.there b 0 (ecells e s).size:=eo_there hW
 have gr:=grown_cells b (ecells e s).toList 0 W
 refine wpList_store_mid hgd 40 x y ho b 0 (ecells e s) hx hy ht (by kernel_rfl) hs (h _ (EBox.of_range (World.rangeAt_setCells_same _ _ _ _ ht)) (fun k hk=>setCells_other b _ 0 W hk) (setCells_sz b _ 0 W) gr.os gr.tape gr.output)
def Sx (n:Nat) (W:World) (k:Nat):Prop:=n≤k∧k<W.heap.size
structure Oc (w:World) (W:World) (e:Evt) (s:Evs) (Q:World→Prop):Prop where
 below:Below w.heap.size w W
 size:w.heap.size + 2≤W.heap.size
 box:EOwn W w.heap.size e s
 res:EOwn W (w.heap.size + 1) noE noS
 sup:Sup (Sx (w.heap.size + 2) W) W Q
variable {w W W':World} {e e':Evt} {s s':Evs} {Q:World→Prop}
theorem Oc.on (h:Oc w W e s Q) (q:Below W.heap.size W W'):Oc w W' e s Q:=
 ⟨h.below.trans (q.mono h.below.size),Nat.le_trans h.size q.size,h.box.on q,h.res.on q,h.sup.on q.size (fun k hk=>q.block k hk.2) (fun _ hk=>⟨hk.1,Nat.lt_of_lt_of_le hk.2 q.size⟩)⟩
theorem Oc.set (h:Oc w W e s Q) {k:Nat} {u:Value} (hk:k<17) (hc:(ecells e' s').toList=(ecells e s).toList.set k u):Oc w (W.setCell ⟨w.heap.size,k,none⟩ u) e' s' Q:=
 ⟨h.below.setCell (Nat.le_refl _) _,by simpa using h.size,eo_at h.box hk hc,eo_other h.res (by omega),h.sup.on (by simp) (fun j hj=>set_other W _ k u (by have:=hj.1;omega)) (fun j hj=>⟨hj.1,by simpa using hj.2⟩)⟩
theorem Oc.more {P:World→Prop} (h:Oc w W e s Q) (hp:Sup (Sx (w.heap.size + 2) W) W P):Oc w W e s (fun X=>Q X∧P X):=
 ⟨h.below,h.size,h.box,h.res,fun X a b=>⟨h.sup X a b,hp X a b⟩⟩
def OcA (w:World) (e:Evt) (s:Evs) (Q:World→Prop) (P:Value→World→Prop) (x:Ending) (W':World):Prop:=∃ a n c,x=.returned (.slice a n c)∧Hid (Oc w W' e s (fun X=>Q X∧P (.slice a n c) X))∧Hid (P (.slice a n c) W')
theorem oc_int (h:Oc w W e s Q) {v:Value} {l:List Int} (hv:Ints w v l) (hl:l.length≤1000000):Calls Tryz.prog 106 #[v] W (OcA w e s Q (fun u X=>Ints X u l)):=by
 refine (cln_int v l W (ints_row (hv.on h.below)) hl).mono (fun x W' ⟨u,hx,ho,hb⟩=>?_)
 have key:∀ X,X.ownsRow (w.heap.size + 2) 3 1 u l.length (l.flatMap enc1)→Ints X u l:=fun X hX=>row_ints (own_rowK (enc:=enc1) (k:=1) (fun _=>rfl) (by decide) hX)
 have ho2:=ownsRow_base_a ho h.size
 obtain ⟨a,c,e1⟩:=(own_rowK (enc:=enc1) (k:=1) (fun _=>rfl) (by decide) ho2).form
 subst e1
 exact ⟨a,_,c,hx,Lib.hid ((h.on hb).more ((owr_sup ho2 (fun g h1 h2=>⟨h1,h2⟩)).imp key)),Lib.hid (key _ ho2)⟩
theorem oc_nth (h:Oc w W e s Q) {v:Value} {l:List (Int × Int)} (hv:Nths w v l) (hl:l.length≤1000000):Calls Tryz.prog 107 #[v] W (OcA w e s Q (fun u X=>Nths X u l)):=by
 refine (cln_nth v l W (nths_row (hv.on h.below)) hl).mono (fun x W' ⟨u,hx,ho,hb⟩=>?_)
 have key:∀ X,X.ownsRow (w.heap.size + 2) 158 2 u l.length (l.flatMap enc2)→Nths X u l:=fun X hX=>row_nths (own_rowK (enc:=enc2) (k:=2) (fun _=>rfl) (by decide) hX)
 have ho2:=ownsRow_base_a ho h.size
 obtain ⟨a,c,e1⟩:=(own_rowK (enc:=enc2) (k:=2) (fun _=>rfl) (by decide) ho2).form
 subst e1
 exact ⟨a,_,c,hx,Lib.hid ((h.on hb).more ((owr_sup ho2 (fun g h1 h2=>⟨h1,h2⟩)).imp key)),Lib.hid (key _ ho2)⟩
theorem oc_chg (h:Oc w W e s Q) {v:Value} {l:List (Int × Int)} (hv:Nths w v l) (hl:l.length≤1000000):Calls Tryz.prog 108 #[v] W (OcA w e s Q (fun u X=>Nths X u l)):=by
 refine (cln_chg v l W (nths_row (hv.on h.below)) hl).mono (fun x W' ⟨u,hx,ho,hb⟩=>?_)
 have key:∀ X,X.ownsRow (w.heap.size + 2) 135 2 u l.length (l.flatMap enc2)→Nths X u l:=fun X hX=>row_nths (own_rowK (enc:=enc2) (k:=2) (fun _=>rfl) (by decide) hX)
 have ho2:=ownsRow_base_a ho h.size
 obtain ⟨a,c,e1⟩:=(own_rowK (enc:=enc2) (k:=2) (fun _=>rfl) (by decide) ho2).form
 subst e1
 exact ⟨a,_,c,hx,Lib.hid ((h.on hb).more ((owr_sup ho2 (fun g h1 h2=>⟨h1,h2⟩)).imp key)),Lib.hid (key _ ho2)⟩
theorem oc_alm (h:Oc w W e s Q) {v:Value} {l:List (Int × Bool × Int × Int)} (hv:Alms w v l) (hl:l.length≤1000000):Calls Tryz.prog 109 #[v] W (OcA w e s Q (fun u X=>Alms X u l)):=by
 refine (cln_alm v l W (alms_row (hv.on h.below)) hl).mono (fun x W' ⟨u,hx,ho,hb⟩=>?_)
 have key:∀ X,X.ownsRow (w.heap.size + 2) 32 4 u l.length (l.flatMap enc4)→Alms X u l:=fun X hX=>row_alms (own_rowK (enc:=enc4) (k:=4) (fun _=>rfl) (by decide) hX)
 have ho2:=ownsRow_base_a ho h.size
 obtain ⟨a,c,e1⟩:=(own_rowK (enc:=enc4) (k:=4) (fun _=>rfl) (by decide) ho2).form
 subst e1
 exact ⟨a,_,c,hx,Lib.hid ((h.on hb).more ((owr_sup ho2 (fun g h1 h2=>⟨h1,h2⟩)).imp key)),Lib.hid (key _ ho2)⟩
def OwA (e:Evt) (w:World) (x:Ending) (W:World):Prop:=∃ s,x=.returned (.agg (ecells (ownE e) s))∧Below w.heap.size w W∧Sup (Sx (w.heap.size) W) W (fun X=>EvB X (ownE e) s)
set_option maxRecDepth 100000 in
set_option maxHeartbeats 4000000 in
theorem own_any (e:Evt) (s:Evs) (w:World) (hv:EvB w e s) (hl:e.rule.months.length≤1000000∧e.rule.days.length≤1000000∧e.rule.weeks.length≤1000000∧e.rule.pick.length≤1000000∧e.more.length≤1000000∧e.nots.length≤1000000∧e.chg.length≤1000000∧e.alm.length≤1000000) :
 Calls Tryz.prog 65 #[.agg (ecells e s)] w (OwA e w):=by
 obtain ⟨W0,hW0⟩:∃ W0,W0=(w.alloc (.cells (ecells e s) 40)).alloc (.cells (ecells noE noS) 40):=⟨_,rfl⟩
 have o0:Oc w W0 e s (fun _=>True):=by
  rw [hW0]
  refine ⟨((Below.refl _ w).alloc (Nat.le_refl _) _).alloc (by simp) _,by simp,(EOwn.new w e s _).on (below_alloc _ _),?_,fun _ _ _=>trivial⟩
  have:=EOwn.new (w.alloc (.cells (ecells e s) 40)) noE noS 40
  rwa [World.size_alloc] at this
 obtain ⟨L1,L2,L3,L4,L5,L6,L7,L8⟩:=hl
 obtain ⟨V1,V2,V3,V4,V5,V6,V7,V8⟩:=hv
 have K1:Hid (∀ (W:World) (s1:Evs) (Q:World→Prop),Oc w W (ownE e) s1 Q→Calls Tryz.prog 106 #[s.vm] W (OcA w (ownE e) s1 Q (fun u X=>Ints X u e.rule.months))):=Lib.hid (fun W s1 Q h=>oc_int h V1 L1)
 have K2:Hid (∀ (W:World) (s1:Evs) (Q:World→Prop),Oc w W (ownE e) s1 Q→Calls Tryz.prog 106 #[s.vd] W (OcA w (ownE e) s1 Q (fun u X=>Ints X u e.rule.days))):=Lib.hid (fun W s1 Q h=>oc_int h V2 L2)
 have K3:Hid (∀ (W:World) (s1:Evs) (Q:World→Prop),Oc w W (ownE e) s1 Q→Calls Tryz.prog 107 #[s.vw] W (OcA w (ownE e) s1 Q (fun u X=>Nths X u e.rule.weeks))):=Lib.hid (fun W s1 Q h=>oc_nth h V3 L3)
 have K4:Hid (∀ (W:World) (s1:Evs) (Q:World→Prop),Oc w W (ownE e) s1 Q→Calls Tryz.prog 106 #[s.vp] W (OcA w (ownE e) s1 Q (fun u X=>Ints X u e.rule.pick))):=Lib.hid (fun W s1 Q h=>oc_int h V4 L4)
 have K5:Hid (∀ (W:World) (s1:Evs) (Q:World→Prop),Oc w W (ownE e) s1 Q→Calls Tryz.prog 106 #[s.vo] W (OcA w (ownE e) s1 Q (fun u X=>Ints X u e.more))):=Lib.hid (fun W s1 Q h=>oc_int h V5 L5)
 have K6:Hid (∀ (W:World) (s1:Evs) (Q:World→Prop),Oc w W (ownE e) s1 Q→Calls Tryz.prog 106 #[s.vn] W (OcA w (ownE e) s1 Q (fun u X=>Ints X u e.nots))):=Lib.hid (fun W s1 Q h=>oc_int h V6 L6)
 have K7:Hid (∀ (W:World) (s1:Evs) (Q:World→Prop),Oc w W (ownE e) s1 Q→Calls Tryz.prog 108 #[s.vc] W (OcA w (ownE e) s1 Q (fun u X=>Nths X u e.chg))):=Lib.hid (fun W s1 Q h=>oc_chg h V7 L7)
 have K8:Hid (∀ (W:World) (s1:Evs) (Q:World→Prop),Oc w W (ownE e) s1 Q→Calls Tryz.prog 109 #[s.va] W (OcA w (ownE e) s1 Q (fun u X=>Alms X u e.alm))):=Lib.hid (fun W s1 Q h=>oc_alm h V8 L8)
 have O0:=Lib.hid o0
 have HW:=Lib.hid hW0
 have sz0:w.heap.size<W0.heap.size:=by have:=o0.size;omega
 have c1:=o0.box.1.1.2.1
 have f1:=o0.box.2 1
 clear hW0 o0 V1 V2 V3 V4 V5 V6 V7 V8 L1 L2 L3 L4 L5 L6 L7 L8
 go_enter Tryz.func65,Tryz.ntmps65
 go_upto_region 1 with fail
 rw [← HW.out]
 clear HW
 go_upto_region 2 with fail
 have O1:=Lib.hid (O0.out.set (k:=1) (u:=.string ⟨#[]⟩) (e':=ownE e) (s':=s) (by decide) rfl)
 generalize W0.setCell ⟨w.heap.size,1,none⟩ (.string ⟨#[]⟩)=W1 at O1 ⊢
 clear O0 sz0 c1 f1
 have c1:=O1.out.box.1.2.1.2.2.2.2.1
 have z1:=O1.out.box.1.lt
 go_wp2_with fail
 refine (K1.out W1 _ _ O1.out).mono ?_
 rintro x Y1 ⟨a1,n1,d1,rfl,H1,P1⟩
 clear c1 z1 K1 O1
 have c1:=H1.out.box.1.2.1.2.2.2.2.1
 have f1:=H1.out.box.2 9
 have z1:=H1.out.box.1.lt
 go_upto_region 3 with fail
 have O2:=Lib.hid (H1.out.set (k:=9) (u:=.slice a1 n1 d1) (e':=ownE e) (s':=⟨(.slice a1 n1 d1),s.vd,s.vw,s.vp,s.vo,s.vn,s.vc,s.va⟩) (by decide) rfl)
 generalize Y1.setCell ⟨w.heap.size,9,none⟩ (.slice a1 n1 d1)=W2 at O2 ⊢
 clear H1 P1 c1 f1 z1
 have c2:=O2.out.box.1.2.1.2.2.2.2.2.1
 have z2:=O2.out.box.1.lt
 go_wp2_with fail
 refine (K2.out W2 _ _ O2.out).mono ?_
 rintro x Y2 ⟨a2,n2,d2,rfl,H2,P2⟩
 clear c2 z2 K2 O2
 have c2:=H2.out.box.1.2.1.2.2.2.2.2.1
 have f2:=H2.out.box.2 10
 have z2:=H2.out.box.1.lt
 go_upto_region 4 with fail
 have O3:=Lib.hid (H2.out.set (k:=10) (u:=.slice a2 n2 d2) (e':=ownE e) (s':=⟨(.slice a1 n1 d1),(.slice a2 n2 d2),s.vw,s.vp,s.vo,s.vn,s.vc,s.va⟩) (by decide) rfl)
 generalize Y2.setCell ⟨w.heap.size,10,none⟩ (.slice a2 n2 d2)=W3 at O3 ⊢
 clear H2 P2 c2 f2 z2
 have c3:=O3.out.box.1.2.1.2.2.2.2.2.2.1
 have z3:=O3.out.box.1.lt
 go_wp2_with fail
 refine (K3.out W3 _ _ O3.out).mono ?_
 rintro x Y3 ⟨a3,n3,d3,rfl,H3,P3⟩
 clear c3 z3 K3 O3
 have c3:=H3.out.box.1.2.1.2.2.2.2.2.2.1
 have f3:=H3.out.box.2 11
 have z3:=H3.out.box.1.lt
 go_upto_region 5 with fail
 have O4:=Lib.hid (H3.out.set (k:=11) (u:=.slice a3 n3 d3) (e':=ownE e) (s':=⟨(.slice a1 n1 d1),(.slice a2 n2 d2),(.slice a3 n3 d3),s.vp,s.vo,s.vn,s.vc,s.va⟩) (by decide) rfl)
 generalize Y3.setCell ⟨w.heap.size,11,none⟩ (.slice a3 n3 d3)=W4 at O4 ⊢
 clear H3 P3 c3 f3 z3
 have c4:=O4.out.box.1.2.1.2.2.2.2.2.2.2
 have z4:=O4.out.box.1.lt
 go_wp2_with fail
 refine (K4.out W4 _ _ O4.out).mono ?_
 rintro x Y4 ⟨a4,n4,d4,rfl,H4,P4⟩
 clear c4 z4 K4 O4
 have c4:=H4.out.box.1.2.1.2.2.2.2.2.2.2
 have f4:=H4.out.box.2 12
 have z4:=H4.out.box.1.lt
 go_upto_region 6 with fail
 have O5:=Lib.hid (H4.out.set (k:=12) (u:=.slice a4 n4 d4) (e':=ownE e) (s':=⟨(.slice a1 n1 d1),(.slice a2 n2 d2),(.slice a3 n3 d3),(.slice a4 n4 d4),s.vo,s.vn,s.vc,s.va⟩) (by decide) rfl)
 generalize Y4.setCell ⟨w.heap.size,12,none⟩ (.slice a4 n4 d4)=W5 at O5 ⊢
 clear H4 P4 c4 f4 z4
 have c5:=O5.out.box.1.2.2.1
 have z5:=O5.out.box.1.lt
 go_wp2_with fail
 refine (K5.out W5 _ _ O5.out).mono ?_
 rintro x Y5 ⟨a5,n5,d5,rfl,H5,P5⟩
 clear c5 z5 K5 O5
 have c5:=H5.out.box.1.2.2.1
 have f5:=H5.out.box.2 13
 have z5:=H5.out.box.1.lt
 go_upto_region 7 with fail
 have O6:=Lib.hid (H5.out.set (k:=13) (u:=.slice a5 n5 d5) (e':=ownE e) (s':=⟨(.slice a1 n1 d1),(.slice a2 n2 d2),(.slice a3 n3 d3),(.slice a4 n4 d4),(.slice a5 n5 d5),s.vn,s.vc,s.va⟩) (by decide) rfl)
 generalize Y5.setCell ⟨w.heap.size,13,none⟩ (.slice a5 n5 d5)=W6 at O6 ⊢
 clear H5 P5 c5 f5 z5
 have c6:=O6.out.box.1.2.2.2.1
 have z6:=O6.out.box.1.lt
 go_wp2_with fail
 refine (K6.out W6 _ _ O6.out).mono ?_
 rintro x Y6 ⟨a6,n6,d6,rfl,H6,P6⟩
 clear c6 z6 K6 O6
 have c6:=H6.out.box.1.2.2.2.1
 have f6:=H6.out.box.2 14
 have z6:=H6.out.box.1.lt
 go_upto_region 8 with fail
 have O7:=Lib.hid (H6.out.set (k:=14) (u:=.slice a6 n6 d6) (e':=ownE e) (s':=⟨(.slice a1 n1 d1),(.slice a2 n2 d2),(.slice a3 n3 d3),(.slice a4 n4 d4),(.slice a5 n5 d5),(.slice a6 n6 d6),s.vc,s.va⟩) (by decide) rfl)
 generalize Y6.setCell ⟨w.heap.size,14,none⟩ (.slice a6 n6 d6)=W7 at O7 ⊢
 clear H6 P6 c6 f6 z6
 have c7:=O7.out.box.1.2.2.2.2.1
 have z7:=O7.out.box.1.lt
 go_wp2_with fail
 refine (K7.out W7 _ _ O7.out).mono ?_
 rintro x Y7 ⟨a7,n7,d7,rfl,H7,P7⟩
 clear c7 z7 K7 O7
 have c7:=H7.out.box.1.2.2.2.2.1
 have f7:=H7.out.box.2 15
 have z7:=H7.out.box.1.lt
 go_upto_region 9 with fail
 have O8:=Lib.hid (H7.out.set (k:=15) (u:=.slice a7 n7 d7) (e':=ownE e) (s':=⟨(.slice a1 n1 d1),(.slice a2 n2 d2),(.slice a3 n3 d3),(.slice a4 n4 d4),(.slice a5 n5 d5),(.slice a6 n6 d6),(.slice a7 n7 d7),s.va⟩) (by decide) rfl)
 generalize Y7.setCell ⟨w.heap.size,15,none⟩ (.slice a7 n7 d7)=W8 at O8 ⊢
 clear H7 P7 c7 f7 z7
 have c8:=O8.out.box.1.2.2.2.2.2
 have z8:=O8.out.box.1.lt
 go_wp2_with fail
 refine (K8.out W8 _ _ O8.out).mono ?_
 rintro x Y8 ⟨a8,n8,d8,rfl,H8,P8⟩
 clear c8 z8 K8 O8
 have c8:=H8.out.box.1.2.2.2.2.2
 have f8:=H8.out.box.2 16
 have z8:=H8.out.box.1.lt
 go_upto_region 10 with fail
 have O9:=Lib.hid (H8.out.set (k:=16) (u:=.slice a8 n8 d8) (e':=ownE e) (s':=⟨(.slice a1 n1 d1),(.slice a2 n2 d2),(.slice a3 n3 d3),(.slice a4 n4 d4),(.slice a5 n5 d5),(.slice a6 n6 d6),(.slice a7 n7 d7),(.slice a8 n8 d8)⟩) (by decide) rfl)
 generalize Y8.setCell ⟨w.heap.size,16,none⟩ (.slice a8 n8 d8)=W9 at O9 ⊢
 clear H8 P8 c8 f8 z8
 have ol:w.heap.size<W9.heap.size:=O9.out.box.1.lt
 have ol2:w.heap.size + 1<W9.heap.size:=O9.out.res.1.lt
 go_wp2_with (first
  | (refine ev_load ?h1 (.tmp 1) ?h2 w.heap.size (ownE e) ⟨.slice a1 n1 d1,.slice a2 n2 d2,.slice a3 n3 d3,.slice a4 n4 d4,.slice a5 n5 d5,.slice a6 n6 d6,.slice a7 n7 d7,.slice a8 n8 d8⟩ ?h3 O9.out.box.1 ?h4;(case h1=>rfl);(case h2=>rfl);(case h3=>rfl))
  | (refine ev_lay ?j1 (.tmp 2) (.tmp 44) ?j2 (w.heap.size + 1) noE noS O9.out.res (ownE e) ⟨.slice a1 n1 d1,.slice a2 n2 d2,.slice a3 n3 d3,.slice a4 n4 d4,.slice a5 n5 d5,.slice a6 n6 d6,.slice a7 n7 d7,.slice a8 n8 d8⟩ ?j3 ?j4 ?j5 ?j6;(case j1=>rfl);(case j2=>rfl);(case j3=>simp [Value.oneCell']);(case j4=>rfl);(case j5=>rfl);intro WE hE hk hz ho ht hp;have EB:=Lib.hid hE;have EK:=Lib.hid hk;have EZ:=Lib.hid hz;have EO:=Lib.hid ho;have ET:=Lib.hid ht;have EP:=Lib.hid hp;clear hE hk hz ho ht hp))
 obtain ⟨⟨q0,q1,q2,q3,q4⟩,⟨q5,q6,q7,q8,q9,q10,q11,q12⟩,q13,q14,q15,q16⟩:=EB.out
 have FI:OwA e w (.returned (.agg (ecells (ownE e) ⟨.slice a1 n1 d1,.slice a2 n2 d2,.slice a3 n3 d3,.slice a4 n4 d4,.slice a5 n5 d5,.slice a6 n6 d6,.slice a7 n7 d7,.slice a8 n8 d8⟩))) WE:=by
  obtain ⟨ob,os,obx,ors,osu⟩:=O9.out
  refine ⟨_,rfl,⟨EO.out.trans ob.os,ET.out.trans ob.tape,EP.out.trans ob.output,by rw [EZ.out];exact ob.size,fun k hk=>(EK.out k (by omega)).trans (ob.block k hk)⟩,?_⟩
  intro X hs hk
  obtain ⟨⟨⟨⟨⟨⟨⟨⟨_,p1⟩,p2⟩,p3⟩,p4⟩,p5⟩,p6⟩,p7⟩,p8⟩:=osu X (by rw [← EZ.out];exact hs) (fun k hk2=>(hk k ⟨by have:=hk2.1;omega,by rw [EZ.out];exact hk2.2⟩).trans (EK.out k (by have:=hk2.1;omega)))
  exact ⟨p1,p2,p3,p4,p5,p6,p7,p8⟩
 refine bodyPost_ret (v:=.agg (ecells (ownE e) ⟨.slice a1 n1 d1,.slice a2 n2 d2,.slice a3 n3 d3,.slice a4 n4 d4,.slice a5 n5 d5,.slice a6 n6 d6,.slice a7 n7 d7,.slice a8 n8 d8⟩)) (by simp [results,Tryz.results65,go_sem,q0,q1,q2,q3,q4,q5,q6,q7,q8,q9,q10,q11,q12,q13,q14,q15,q16]) rfl FI
end Go.Proofs.YthdohcjingfpoaaGreatDoor.Dk
