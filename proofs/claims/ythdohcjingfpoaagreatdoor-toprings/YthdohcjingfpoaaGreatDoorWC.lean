/-
  Texts of our own that serve the card of this claim, joined into one.
-/
import Derived.Test.YthdohcjingfpoaaGreatDoorWB
import Derived.Deep.RegionHeld3
namespace Go.Proofs.YthdohcjingfpoaaGreatDoor.Qu
open Go.RowKit
theorem wm_many {w:World} {b:Nat} {now many:Int} {S:Nat→Value} {R:Nat→List Rq} (h:Wm w b now many S R) (m:Int):Wm (w.setCell ⟨b,1,none⟩ (.int .i64 m)) b now m S R∧Kf (Ft b S) (Ft b S) w (w.setCell ⟨b,1,none⟩ (.int .i64 m)):=by
 refine ⟨⟨?_,fun k hk=>ownsRow_setCell_below (h.own k hk) (by show b<b + 1;omega) _,h.apart⟩,⟨rfl,rfl,rfl,by simp [World.setCell],fun k _ hF=>Below.heap_setCell w _ _ k (fun e=>hF (Or.inl e)),fun k q=>Or.inl q⟩⟩
 have:=h.box.set 1 (.int .i64 m)
 rw [hf_many] at this
 exact this
theorem wm_now {w:World} {b:Nat} {now many:Int} {S:Nat→Value} {R:Nat→List Rq} (h:Wm w b now many S R) (m:Int):Wm (w.setCell ⟨b,0,none⟩ (.int .i64 m)) b m many S R∧Kf (Ft b S) (Ft b S) w (w.setCell ⟨b,0,none⟩ (.int .i64 m)):=by
 refine ⟨⟨?_,fun k hk=>ownsRow_setCell_below (h.own k hk) (by show b<b + 1;omega) _,h.apart⟩,⟨rfl,rfl,rfl,by simp [World.setCell],fun k _ hF=>Below.heap_setCell w _ _ k (fun e=>hF (Or.inl e)),fun k q=>Or.inl q⟩⟩
 have:=h.box.set 0 (.int .i64 m)
 rw [hf_now] at this
 exact this
theorem put_len1 {M:List Rq} {r:Rq} (h:Rs M) (hr:r ∉ M):(put M r).length=M.length + 1:=by
 have h1:=nd_len (P:=put M r) (M:=r :: M) (rs_nd (put_rs h)) (fun z hz=>by
  rcases (put_mem hr).1 hz with q | q
  ·exact List.mem_cons_of_mem _ q
  ·rw [q];exact List.mem_cons_self)
 have h2:=nd_len (P:=r :: M) (M:=put M r) (List.nodup_cons.2 ⟨hr,rs_nd h⟩) (fun z hz=>by
  rcases List.mem_cons.1 hz with q | q
  ·rw [q];exact (put_mem hr).2 (Or.inr rfl)
  ·exact (put_mem hr).2 (Or.inl q))
 simp only [List.length_cons] at h1 h2
 omega
def waf (now:Int) (M:List Rq) (r:Rq):Int:=if ist r.1=false then 1 else if r.1≤now then 6 else if hasQ M r=true then 7 else if 400≤M.length then 4 else 0
def wad (now:Int) (M:List Rq) (r:Rq):List Rq:=if waf now M r=0 then put M r else M
def WaA (b:Nat) (S:Nat→Value) (now:Int) (w:World) (f:Int) (N:List Rq) (e:Ending) (w':World):Prop:=e=.returned (fault f)∧∃ S',Wl w' b S' now N∧Kf (Ft b S) (Ft b S') w w'
theorem ist_in {t:Int} (h:ist t=true):1≤t∧t≤157785119:=of_decide_eq_true h
set_option maxHeartbeats 4000000 in
set_option maxRecDepth 100000 in
theorem wadd_any (w:World) (b:Nat) (S:Nat→Value) (now:Int) (M:List Rq) (r:Rq) (h:Wl w b S now M) :
 Calls Tryz.prog 24 #[.pointer (some ⟨b,0,none⟩),agQ r] w (WaA b S now w (waf now M r) (wad now M r)):=by
 obtain ⟨R,hm,hi⟩:=h
 obtain ⟨W0,hW0⟩:∃ W0,W0=w.alloc (.cells #[.int .i64 r.1,.string r.2.1,.int .i64 r.2.2.1,.int .i64 r.2.2.2.1,.int .i64 r.2.2.2.2] 45):=⟨_,rfl⟩
 have b0:Below w.heap.size w W0:=by rw [hW0];exact (Below.refl _ _).alloc (Nat.le_refl _) _
 have BT:Hid (∀ X,Below W0.heap.size W0 X→Below w.heap.size w X):=Lib.hid (fun X q=>b0.trans (q.mono b0.size))
 have HW:=Lib.hid hW0
 have x0:QBx W0 w.heap.size r:=by rw [hW0];exact QBx.new w r _
 have m0:=hm.onB b0
 have HX:Hid (∀ X,Below W0.heap.size W0 X→QBx X w.heap.size r∧b<X.heap.size∧X.cell? ⟨b,0,none⟩=some (.int .i64 now)∧X.cell? ⟨b,1,none⟩=some (.int .i64 (M.length:Int))):=Lib.hid (fun X q=>⟨x0.on q,(m0.onB q).box.lt,(m0.onB q).box.cnow,(m0.onB q).box.cmany⟩)
 obtain ⟨⟨r1,r2,r3,r4,r5⟩,bl0,cn0,cm0⟩:=HX.out W0 (Below.refl _ _)
 have bl:w.heap.size<W0.heap.size:=cell_in r1
 have KT:Hid (∀ X,Calls Tryz.prog 51 #[.int .i64 r.1] X fun e w'=>e=.returned (.bool (ist r.1))∧w'=X):=Lib.hid (fun X=>isTime_any _ X)
 have SAME:Hid (∀ k,waf now M r=k→¬ k=0→∀ X,Below w.heap.size w X→WaA b S now w k (wad now M r) (.returned (fault k)) X):=Lib.hid (fun k hk h0 X q=>⟨rfl,S,⟨R,by
  unfold wad
  rw [if_neg (by rw [hk];exact h0)]
  exact ⟨hm.onB q,hi⟩⟩,Kf.of_below q⟩)
 rcases hT:ist r.1 with _ | _
 ·have e1:waf now M r=1:=by unfold waf;rw [if_pos hT]
  have N1:=Lib.hid (SAME.out 1 e1 (by decide) W0 b0)
  rw [e1]
  rw [hT] at KT
  generalize WaA b S now w 1 (wad now M r)=PP at N1 ⊢
  clear hm hi hW0 b0 hT e1 SAME HX m0 x0 cn0 cm0
  go_enter Tryz.func24,Tryz.ntmps24
  go_upto_region 1 with fail
  rw [← HW.out]
  go_wp2_with (go_at_call 51;refine (KT.out _).mono ?_;rintro e w2 ⟨rfl,hw⟩;replace hw:=hw.symm;subst hw)
  exact N1.out
 obtain ⟨t1,t2⟩:=ist_in hT
 rw [hT] at KT
 by_cases hN:r.1≤now
 ·have e1:waf now M r=6:=by unfold waf;rw [if_neg (by rw [hT];decide),if_pos hN]
  have N1:=Lib.hid (SAME.out 6 e1 (by decide))
  have d1:decide (r.1≤now)=true:=decide_eq_true hN
  rw [e1]
  generalize WaA b S now w 6 (wad now M r)=PP at N1 ⊢
  clear hm hi hW0 hT e1 SAME HX m0 x0 cm0
  go_enter Tryz.func24,Tryz.ntmps24
  go_upto_region 1 with fail
  rw [← HW.out]
  go_upto_region 3 with (go_at_call 51;refine (KT.out _).mono ?_;rintro e w2 ⟨rfl,hw⟩;replace hw:=hw.symm;subst hw)
  go_quiet (fail)
  have N2:=Lib.hid (N1.out (W0.drewN nq) (below_drewN b0 _))
  clear N1 b0
  go_wp2
  exact N2.out
 have KS:Hid (∀ X,Below W0.heap.size W0 X→Calls Tryz.prog 55 #[.pointer (some ⟨b,0,none⟩),.int .i64 r.1] X (SpA now r.1 X)):=Lib.hid (fun X q=>spot_any X b now _ S r.1 (m0.onB q).box hi.n1 hi.n2 t1 t2)
 have d1:decide (r.1≤now)=false:=decide_eq_false hN
 have KC:Hid (∀ l s:Nat,Sp now.toNat r.1.toNat l s→l<5→s<64→∀ X,Below W0.heap.size W0 X→X.cell? ⟨b,2 + l * 64 + s,none⟩=some (S (l * 64 + s))∧Calls Tryz.prog 56 #[S (l * 64 + s),agQ r] X fun e w'=>e=.returned (.bool (hasQ M r))∧Below X.heap.size X w'):=Lib.hid (fun l s hs hl5 hs6 X q=>by
  have hk:l * 64 + s<320:=by omega
  have mX:=m0.onB q
  refine ⟨by have:=mX.box.cslot hk;rwa [← Nat.add_assoc] at this,?_⟩
  refine (contains_any (R (l * 64 + s)) r _ X (mX.own _ hk).rd (hi.row hk)).mono (fun e w' ⟨he,hb⟩=>⟨by rw [he,hi.has hk hs],hb⟩))
 have KL:Hid (hasQ M r=false→M.length<400→waf now M r=0→∀ X,Below W0.heap.size W0 X→Calls Tryz.prog 57 #[.pointer (some ⟨b,0,none⟩),agQ r] X fun e w4=>e=.returned (.tuple #[])∧b<w4.heap.size∧w4.cell? ⟨b,1,none⟩=some (.int .i64 (M.length:Int))∧w4.frozen? ⟨b,1,none⟩=false∧Hid (WaA b S now w 0 (wad now M r) (.returned (fault 0)) (w4.setCell ⟨b,1,none⟩ (.int .i64 ((M.length:Int) + 1))))):=Lib.hid (fun hB hF hW X q=>by
  refine (lay_any X b now _ S R r (m0.onB q) hi.n1 hi.n2 t1 t2 (fun k hk=>hi.row hk)).mono (fun e w4 ⟨he,l,s,v',hs,hl5,hs6,m4,f4⟩=>?_)
  have hr:=hasQ_not.1 hB
  obtain ⟨m5,f5⟩:=wm_many m4 ((M.length:Int) + 1)
  have wl:Wl (w4.setCell ⟨b,1,none⟩ (.int .i64 ((M.length:Int) + 1))) b (upd S (l * 64 + s) v') now (put M r):=⟨upd R (l * 64 + s) (R (l * 64 + s)++[r]),by
   rw [put_len1 hi.rs hr]
   exact m5,hi.add (by omega) hs (by omega) t2 hr hF⟩
  refine ⟨he,m4.box.lt,m4.box.cmany,m4.box.frozen _,Lib.hid ⟨rfl,_,?_,((Kf.of_below (b0.trans (q.mono b0.size))).trans f4).trans f5⟩⟩
  unfold wad
  rw [if_pos hW]
  exact wl)
 have W7:Hid (hasQ M r=true→waf now M r=7):=Lib.hid (fun hB=>by unfold waf;rw [if_neg (by rw [hT];decide),if_neg hN,if_pos hB])
 have W4:Hid (hasQ M r=false→400≤M.length→waf now M r=4):=Lib.hid (fun hB hF=>by unfold waf;rw [if_neg (by rw [hT];decide),if_neg hN,if_neg (by rw [hB];decide),if_pos hF])
 have W0_:Hid (hasQ M r=false→M.length<400→waf now M r=0):=Lib.hid (fun hB hF=>by unfold waf;rw [if_neg (by rw [hT];decide),if_neg hN,if_neg (by rw [hB];decide),if_neg (by omega)])
 have HM:Hid (∀ X,Below W0.heap.size W0 X→b<X.heap.size∧X.cell? ⟨b,1,none⟩=some (.int .i64 (M.length:Int))∧QBx X w.heap.size r):=Lib.hid (fun X q=>⟨(HX.out X q).2.1,(HX.out X q).2.2.2,(HX.out X q).1⟩)
 generalize hasQ M r=C at KC KL W7 W4 W0_
 generalize waf now M r=FA at KL W7 W4 W0_ SAME ⊢
 generalize WaA b S now w=PP at KL SAME ⊢
 generalize wad now M r=MM at KL SAME ⊢
 clear hm hi hW0 hT HX m0 x0 cm0 b0 t1 t2
 generalize hn:M.length=n at *
 clear hn
 go_enter Tryz.func24,Tryz.ntmps24
 go_upto_region 1 with fail
 rw [← HW.out]
 go_upto_region 3 with (go_at_call 51;refine (KT.out _).mono ?_;rintro e w2 ⟨rfl,hw⟩;replace hw:=hw.symm;subst hw)
 go_quiet (fail)
 have B1:Hid (Below W0.heap.size W0 (W0.drewN nq)):=Lib.hid (below_drewN (Below.refl _ _) _)
 generalize W0.drewN nq=W1 at B1 ⊢
 obtain ⟨blb1,_,y1,y2,y3,y4,y5⟩:=HM.out W1 B1.out
 have bl1:w.heap.size<W1.heap.size:=cell_in y1
 clear r1 r2 r3 r4 r5 bl0 cn0 bl KT HW
 go_upto_region 6 with (go_at_call 55;refine (KS.out _ B1.out).mono ?_;rintro e w3 ⟨l,s,hs,hl5,hs6,rfl,hb⟩)
 have B3:Hid (Below W0.heap.size W0 w3):=Lib.hid (B1.out.trans (hb.mono B1.out.size))
 have KC2:=Lib.hid (KC.out l s hs.out hl5 hs6)
 clear y1 y2 y3 y4 y5 blb1 bl1 hb B1 KC KS hs
 generalize S (l * 64 + s)=sv at KC2
 have HS:Hid (∀ X,Below w3.heap.size w3 X→(fun X=>X.cell? ⟨b,2 + l * 64 + s,none⟩=some sv∧X.cell? ⟨w.heap.size,0,none⟩=some (.int .i64 r.1)∧X.cell? ⟨w.heap.size,1,none⟩=some (.string r.2.1)∧X.cell? ⟨w.heap.size,2,none⟩=some (.int .i64 r.2.2.1)∧X.cell? ⟨w.heap.size,3,none⟩=some (.int .i64 r.2.2.2.1)∧X.cell? ⟨w.heap.size,4,none⟩=some (.int .i64 r.2.2.2.2)) X):=Lib.hid (fun X q=>by
  have q2:Below W0.heap.size W0 X:=B3.out.trans (q.mono B3.out.size)
  exact ⟨(KC2.out X q2).1,(HM.out X q2).2.2⟩)
 have KC3:Hid (∀ X,Below w3.heap.size w3 X→Calls Tryz.prog 56 #[sv,agQ r] X fun e w'=>e=.returned (.bool C)∧Below w3.heap.size w3 w'):=Lib.hid (fun X q=>(KC2.out X (B3.out.trans (q.mono B3.out.size))).2.mono (fun e w' ⟨h1,h2⟩=>⟨h1,q.trans (h2.mono q.size)⟩))
 obtain ⟨c0,x1,x2,x3,x4,x5⟩:=HS.out w3 (Below.refl _ _)
 have bl0:b<w3.heap.size:=cell_in c0
 have bl1:w.heap.size<w3.heap.size:=cell_in x1
 have hl5i:(l:Int)<5:=by omega
 have hs6i:(s:Int)<64:=by omega
 go_region_held3 (fun X=>X.cell? ⟨b,2 + l * 64 + s,none⟩=some sv∧X.cell? ⟨w.heap.size,0,none⟩=some (.int .i64 r.1)∧X.cell? ⟨w.heap.size,1,none⟩=some (.string r.2.1)∧X.cell? ⟨w.heap.size,2,none⟩=some (.int .i64 r.2.2.1)∧X.cell? ⟨w.heap.size,3,none⟩=some (.int .i64 r.2.2.2.1)∧X.cell? ⟨w.heap.size,4,none⟩=some (.int .i64 r.2.2.2.2))
  (first | exact HS.out _ (Below.drew (Below.refl _ w3)) | exact HS.out _ hb6)
  (first | (go_at_call 56;refine (KC3.out _ (Below.drew (Below.refl _ w3))).mono ?_;rintro e w4 ⟨rfl,hb6⟩))
 have B4:Hid (Below W0.heap.size W0 w4):=Lib.hid (B3.out.trans (hb6.mono B3.out.size))
 obtain ⟨blb4,cm4,z1,z2,z3,z4,z5⟩:=HM.out w4 B4.out
 have bl4:w.heap.size<w4.heap.size:=cell_in z1
 have BW:=Lib.hid (BT.out w4 B4.out)
 clear c0 x1 x2 x3 x4 x5 bl0 bl1 HS KC3 KC2 hb6 hl5i hs6i hl5 hs6
 rcases C with _ | _
 ·by_cases hF:400≤n
  ·have F1:=W4.out rfl hF
   have N1:Hid (PP FA MM (.returned (fault 4)) w4):=Lib.hid (by have:=SAME.out 4 F1 (by decide) w4 BW.out;rw [F1];exact this)
   have hF2:(400:Int)≤(n:Int):=by omega
   clear F1
   go_wp2
   exact N1.out
  ·have F1:=W0_.out rfl (by omega)
   have K4:=Lib.hid (KL.out rfl (by omega) F1 w4 B4.out)
   have HF:=Lib.hid F1
   have hF2:¬ (400:Int)≤(n:Int):=by omega
   have hF3:n<400:=by omega
   clear F1 hF
   go_wp2_with (go_at_call 57;refine K4.out.mono ?_;rintro e w5 ⟨rfl,bl5,cm5,fr5,FI⟩)
   have F2:=FI.out
   rw [HF.out]
   exact F2
 ·have F1:=W7.out rfl
  have N1:Hid (PP FA MM (.returned (fault 7)) w4):=Lib.hid (by have:=SAME.out 7 F1 (by decide) w4 BW.out;rw [F1];exact this)
  clear F1
  go_wp2
  exact N1.out
end Go.Proofs.YthdohcjingfpoaaGreatDoor.Qu
namespace Go.Proofs.YthdohcjingfpoaaGreatDoor.Qu
open Go.RowKit
def wgf (now t:Int):Int:=if ist t=false then 1 else if t<now then 6 else 0
def GoI (w:World) (b:Nat) (S:Nat→Value) (n t:Int) (M P:List Rq) (u:Value) (k:Nat) (dv:Value) (wr:World):Prop:=
 ∃ Si Ri Ni,Wm wr b t n Si Ri∧Iv t Ri Ni∧(∀ z,z∈Ni↔z∈M∧t<z.1∧(z ∉ P∨z∈P.take k))∧Kf (Ft b S) (Ft b Si) w wr∧Ow wr w.heap.size u P∧(∀ g,u.ownBlock=some g→¬ Ft b Si g)∧Ow wr w.heap.size dv ((P.take k).filter (fun z=>decide (z.1≤t)))∧(∀ g,dv.ownBlock=some g→¬ Ft b Si g)∧(∀ g,dv.ownBlock=some g→u.ownBlock≠some g)
theorem GoI.onB {w wr X:World} {b k:Nat} {S:Nat→Value} {n t:Int} {M P:List Rq} {u dv:Value} (h:GoI w b S n t M P u k dv wr) (q:Below wr.heap.size wr X):GoI w b S n t M P u k dv X:=by
 obtain ⟨Si,Ri,Ni,h1,h2,h3,h4,h5,h6,h7,h8,h9⟩:=h
 exact ⟨Si,Ri,Ni,h1.onB q,h2,h3,h4.later (q.mono h4.size),own_on h5 (fun g hg=>q.block g (h5.lt g hg).2),h6,own_on h7 (fun g hg=>q.block g (h7.lt g hg).2),h8,h9⟩
theorem take_one {P:List Rq} {k:Nat} (hk:k<P.length):P.take (k + 1)=P.take k++[P.getD k zq]:=by
 rw [List.take_add_one,List.getD_eq_getElem?_getD,List.getElem?_eq_getElem hk]
 rfl
theorem nd_take {P:List Rq} (h:P.Nodup) {k:Nat} (hk:k<P.length):P.getD k zq ∉ P.take k:=fun q=>by
 have e:P=P.take k++P.getD k zq :: P.drop (k + 1):=by
  rw [List.getD_eq_getElem?_getD,List.getElem?_eq_getElem hk]
  simp
 have h':=h
 rw [e,List.nodup_append] at h'
 exact h'.2.2 _ q _ List.mem_cons_self rfl
theorem go_due {w X:World} {b k:Nat} {S:Nat→Value} {n t:Int} {M P:List Rq} {u dv:Value} {r:Rq} (h:GoI w b S n t M P u k dv X) (hk:k<P.length) (hr:P.getD k zq=r) (hd:r.1≤t) (hl:P.length≤1000000) :
 ∃ v' w3,(∀ ty,(Builtin.append_ #[41,41] ty #[dv,.slice (some ⟨X.heap.size,0,none⟩) 1 1]).run Tryz.prog (X.alloc (.cells #[.int .i64 r.1,.string r.2.1,.int .i64 r.2.2.1,.int .i64 r.2.2.2.1,.int .i64 r.2.2.2.2] 45))=.ok v' w3)∧GoI w b S n t M P u (k + 1) v' w3:=by
 obtain ⟨Y,hY⟩:∃ Y,Y=X.alloc (.cells #[.int .i64 r.1,.string r.2.1,.int .i64 r.2.2.1,.int .i64 r.2.2.2.1,.int .i64 r.2.2.2.2] 45):=⟨_,rfl⟩
 have qY:Below X.heap.size X Y:=by rw [hY];exact below_alloc _ _
 have rr:Rd Y (.slice (some ⟨X.heap.size,0,none⟩) 1 1) [r]:=by rw [hY];exact rd_new X r
 obtain ⟨Si,Ri,Ni,h1,h2,h3,h4,h5,h6,h7,h8,h9⟩:=h.onB qY
 have hn:w.heap.size≤Y.heap.size:=h4.size
 have hlen:((P.take k).filter (fun z=>decide (z.1≤t))).length≤k:=by
  have:=List.length_filter_le (fun z:Rq=>decide (z.1≤t)) (P.take k)
  rw [List.length_take] at this
  omega
 obtain ⟨v',w3,ap,o3,g3,p3⟩:=app5_at h7 rr hn (by simp only [List.length_cons,List.length_nil];omega)
 have b3:=grown_low h7 hn g3
 have e1:(P.take (k + 1)).filter (fun z=>decide (z.1≤t))=(P.take k).filter (fun z=>decide (z.1≤t))++[r]:=by
  rw [take_one hk,List.filter_append,hr,List.filter_cons_of_pos (by simpa using hd)]
  rfl
 rw [← hY]
 refine ⟨v',w3,ap,Si,Ri,Ni,h1.on (fun g hg=>g3.block g (h1.inw hg).2 (fun e=>h8 g e.symm hg)),h2,fun z=>?_,h4.later b3,own_on h5 (fun g hg=>g3.block g (h5.lt g hg).2 (fun e=>h9 g e.symm hg)),h6,by rw [e1];exact o3,fun g hg hF=>?_,fun g hg hU=>?_⟩
 ·rw [h3,take_one hk,hr,List.mem_append,List.mem_singleton]
  constructor
  ·rintro ⟨q1,q2,q3⟩
   exact ⟨q1,q2,q3.imp id Or.inl⟩
  ·rintro ⟨q1,q2,q3 | q3 | q3⟩
   ·exact ⟨q1,q2,Or.inl q3⟩
   ·exact ⟨q1,q2,Or.inr q3⟩
   ·rw [q3] at q2
    omega
 ·rcases p3 with p | p
  ·exact h8 g (p.symm.trans hg) hF
  ·rw [p] at hg
   injection hg with hg
   have:=(h1.inw hF).2
   omega
 ·rcases p3 with p | p
  ·exact h9 g (p.symm.trans hg) hU
  ·rw [p] at hg
   injection hg with hg
   have:=(h5.lt g hU).2
   omega
theorem go_lay {w X:World} {b k:Nat} {S:Nat→Value} {R:Nat→List Rq} {n now t:Int} {M P:List Rq} {u dv:Value} {r:Rq} (hi:Iv now R M) (hPM:∀ z,z∈P→z∈M) (hP:P.Nodup) (h:GoI w b S n t M P u k dv X) (hk:k<P.length) (hr:P.getD k zq=r) (hd:t<r.1) :
 Calls Tryz.prog 57 #[.pointer (some ⟨b,0,none⟩),agQ r] X fun e w4=>e=.returned (.tuple #[])∧GoI w b S n t M P u (k + 1) dv w4:=by
 obtain ⟨Si,Ri,Ni,h1,h2,h3,h4,h5,h6,h7,h8,h9⟩:=h
 have hrP:r∈P:=by rw [← hr];exact getD_mem hk
 have hrM:=hPM r hrP
 have hrQ:r ∉ P.take k:=by rw [← hr];exact nd_take hP hk
 have ti:=hi.in_ hrM
 have n1:=hi.n1
 refine (lay_any X b t n Si Ri r h1 h2.n1 h2.n2 (by omega) ti.2 (fun j hj=>h2.row hj)).mono (fun e w4 ⟨he,l,s,v',hs,hl5,hs6,m4,f4⟩=>⟨he,?_⟩)
 obtain ⟨N',i4,e4⟩:=Iv.again hi h2 h3 hrM hrP hrQ hd (by omega) hs
 refine ⟨_,_,N',m4,i4,fun z=>?_,h4.trans f4,own_on h5 (fun g hg=>f4.block g (h5.lt g hg).2 (h6 g hg)),fun g hg=>f4.apart (h5.lt g hg).2 (h6 g hg),?_,fun g hg=>f4.apart (h7.lt g hg).2 (h8 g hg),h9⟩
 ·rw [e4,take_one hk,hr]
 ·have e1:(P.take (k + 1)).filter (fun z=>decide (z.1≤t))=(P.take k).filter (fun z=>decide (z.1≤t)):=by
   rw [take_one hk,List.filter_append,hr,List.filter_cons_of_neg (by simp;omega)]
   simp
  rw [e1]
  exact own_on h7 (fun g hg=>f4.block g (h7.lt g hg).2 (h8 g hg))
theorem go_start {w w2:World} {b:Nat} {S:Nat→Value} {R:Nat→List Rq} {n now t:Int} {M:List Rq} {u:Value} {l s:Nat} (hm:Wm w b now n S R) (hi:Iv now R M) (hs:Sp now.toNat t.toNat l s) (hs6:s<64) (ht:1≤t) (ht2:t≤157785119) (hT:TkA b now n S R 0 (l * 64 + (s + 1)) w u w2) :
 GoI w b S n t M (tkL R 0 (l * 64 + (s + 1))) u 0 (.slice none 0 0) (w2.setCell ⟨b,0,none⟩ (.int .i64 t)):=by
 obtain ⟨o,m,f⟩:=hT
 obtain ⟨m3,f3⟩:=wm_now m t
 obtain ⟨N,i3,e3⟩:=hi.later hs hs6 ht ht2
 refine ⟨_,_,N,m3,i3,fun z=>by rw [e3,List.take_zero],f.trans f3,ownsRow_setCell_below o (by show b<w.heap.size;exact hm.box.lt) _,fun g hg hF=>?_,World.ownsRow_nil _ _ _ _,fun g hg=>(by cases hg),fun g hg=>(by cases hg)⟩
 have h1:=(o.lt g hg).1
 have h2:=(hm.inw (tkS_ft hF)).2
 omega
end Go.Proofs.YthdohcjingfpoaaGreatDoor.Qu
namespace Go.Proofs.YthdohcjingfpoaaGreatDoor.Qu
open Go.RowKit
def WgnA (b:Nat) (S:Nat→Value) (now:Int) (M:List Rq) (f:Int) (w:World) (e:Ending) (w':World):Prop:=e=.returned (.tuple #[.slice none 0 0,fault f])∧Wl w' b S now M∧Below w.heap.size w w'
theorem wgo_no (w:World) (b:Nat) (S:Nat→Value) (now:Int) (M:List Rq) (t:Int) (h:Wl w b S now M) (hf:¬ wgf now t=0) :
 Calls Tryz.prog 25 #[.pointer (some ⟨b,0,none⟩),.int .i64 t] w (WgnA b S now M (wgf now t) w):=by
 have KT:Hid (∀ X,Calls Tryz.prog 51 #[.int .i64 t] X fun e w'=>e=.returned (.bool (ist t))∧w'=X):=Lib.hid (fun X=>isTime_any _ X)
 have FI:Hid (∀ k,wgf now t=k→WgnA b S now M k w (.returned (.tuple #[.slice none 0 0,fault k])) w):=Lib.hid (fun k _=>⟨rfl,h,Below.refl _ _⟩)
 obtain ⟨R,hm,hi⟩:=h
 have c:=hm.box.cnow
 have bl:=hm.box.lt
 rcases hT:ist t with _ | _
 ·have e1:wgf now t=1:=by unfold wgf;rw [if_pos hT]
  have N1:=Lib.hid (FI.out 1 e1)
  rw [e1]
  rw [hT] at KT
  generalize WgnA b S now M 1 w=PP at N1 ⊢
  clear hm hi hT e1 FI hf
  go_enter Tryz.func25,Tryz.ntmps25
  go_wp2_with (go_at_call 51;refine (KT.out _).mono ?_;rintro e w2 ⟨rfl,hw⟩;replace hw:=hw.symm;subst hw)
  exact N1.out
 ·have hN:t<now:=by
   rcases Int.lt_or_le t now with q | q
   ·exact q
   ·exact absurd (by unfold wgf;rw [if_neg (by rw [hT];decide),if_neg (by omega)]) hf
  have e1:wgf now t=6:=by unfold wgf;rw [if_neg (by rw [hT];decide),if_pos hN]
  have N1:=Lib.hid (FI.out 6 e1)
  rw [e1]
  rw [hT] at KT
  generalize WgnA b S now M 6 w=PP at N1 ⊢
  clear hm hi hT e1 FI hf
  go_enter Tryz.func25,Tryz.ntmps25
  go_wp2_with (go_at_call 51;refine (KT.out _).mono ?_;rintro e w2 ⟨rfl,hw⟩;replace hw:=hw.symm;subst hw)
  exact N1.out
def WgyA (b:Nat) (S:Nat→Value) (M:List Rq) (t:Int) (w:World) (e:Ending) (w':World):Prop:=∃ u S',e=.returned (.tuple #[u,.nilIface])∧Wl w' b S' t (laterQ M t)∧Kf (Ft b S) (Ft b S') w w'∧Ow w' w.heap.size u (dueQ M t)∧∀ g,u.ownBlock=some g→¬ Ft b S' g
theorem go_end {w wr:World} {b:Nat} {S:Nat→Value} {R:Nat→List Rq} {now t:Int} {M P:List Rq} {u dv:Value} (hi:Iv now R M) (hPM:∀ z,z∈P→z∈M) (hP:P.Nodup) (hdue:∀ z,z∈M→z.1≤t→z∈P) (h:GoI w b S M.length t M P u P.length dv wr) :
 ∃ (a:Option Addr) (d cap:Nat),dv=.slice a d cap∧d=(dueQ M t).length∧wr.cell? ⟨b,1,none⟩=some (.int .i64 (M.length:Int))∧wr.frozen? ⟨b,1,none⟩=false∧b<wr.heap.size∧
  Calls Tryz.prog 59 #[dv,.func (.func 13) #[] #[]] (wr.setCell ⟨b,1,none⟩ (.int .i64 ((M.length:Int) - (d:Int)))) fun e w'=>e=.returned (.tuple #[])∧WgyA b S M t w (.returned (.tuple #[dv,.nilIface])) w':=by
 obtain ⟨Si,Ri,Ni,h1,h2,h3,h4,h5,h6,h7,h8,h9⟩:=h
 rw [List.take_length] at h3 h7
 obtain ⟨D,hD⟩:∃ D,D=P.filter (fun z=>decide (z.1≤t)):=⟨_,rfl⟩
 rw [← hD] at h7
 have nD:D.Nodup:=by rw [hD];exact List.Pairwise.sublist List.filter_sublist hP
 have memD:∀ z,z∈D↔z∈dueQ M t:=fun z=>by
  rw [hD,List.mem_filter,decide_eq_true_iff,dueQ_mem]
  exact ⟨fun q=>⟨hPM z q.1,q.2⟩,fun q=>⟨hdue z q.1 q.2,q.2⟩⟩
 have lenD:D.length=(dueQ M t).length:=Nat.le_antisymm (nd_len nD (fun z hz=>(memD z).1 hz)) (nd_len (rs_nd (dueQ_rs hi.rs)) (fun z hz=>(memD z).2 hz))
 obtain ⟨a,cap,e7,_⟩:=h7.rd
 have hdl:=due_later M t
 have hM4:=hi.len
 refine ⟨a,D.length,cap,e7,lenD,h1.box.cmany,h1.box.frozen _,h1.box.lt,?_⟩
 obtain ⟨m5,f5⟩:=wm_many h1 ((M.length:Int) - (D.length:Int))
 obtain ⟨W5,hW5⟩:∃ W5,W5=wr.setCell ⟨b,1,none⟩ (.int .i64 ((M.length:Int) - (D.length:Int))):=⟨_,rfl⟩
 rw [← hW5] at m5 f5 ⊢
 have o5:Ow W5 w.heap.size dv D:=own_on h7 (fun g hg=>f5.block g (h7.lt g hg).2 (h8 g hg))
 refine (sortQ_any D w.heap.size dv W5 o5 (by omega)).mono (fun e w' ⟨he,B,hp,hs,g6,o6⟩=>⟨he,dv,Si,rfl,?_⟩)
 have eB:=sorted_due hi hP hPM hdue hD hp hs
 have hn:w.heap.size≤W5.heap.size:=Nat.le_trans h4.size f5.size
 have b6:=grown_low o5 hn g6
 have m6:Wm w' b t ((M.length:Int) - (D.length:Int)) Si Ri:=m5.on (fun g hg=>g6.block g (m5.inw hg).2 (fun e=>h8 g e.symm hg))
 rw [eB] at o6
 have el:((M.length:Int) - (D.length:Int))=((laterQ M t).length:Int):=by omega
 rw [el] at m6
 exact ⟨⟨Ri,m6,h2.fin hi.rs (P:=P) h3⟩,(h4.trans f5).later b6,o6,h8⟩
theorem GoI.rd {w wr:World} {b k:Nat} {S:Nat→Value} {n t:Int} {M P:List Rq} {u dv:Value} (h:GoI w b S n t M P u k dv wr):Rd wr u P:=by
 obtain ⟨_,_,_,_,_,_,_,h5,_⟩:=h
 exact h5.rd
set_option maxHeartbeats 4000000 in
set_option maxRecDepth 100000 in
theorem wgo_yes (w:World) (b:Nat) (S:Nat→Value) (now:Int) (M:List Rq) (t:Int) (h:Wl w b S now M) (hT:ist t=true) (hle:now≤t) :
 Calls Tryz.prog 25 #[.pointer (some ⟨b,0,none⟩),.int .i64 t] w (WgyA b S M t w):=by
 have KT:Hid (∀ X,Calls Tryz.prog 51 #[.int .i64 t] X fun e w'=>e=.returned (.bool true)∧w'=X):=Lib.hid (fun X=>by rw [← hT];exact isTime_any _ X)
 obtain ⟨R,hm,hi⟩:=h
 obtain ⟨t1,t2⟩:=ist_in hT
 have c:=hm.box.cnow
 have bl:=hm.box.lt
 have KU:Hid (Calls Tryz.prog 58 #[.pointer (some ⟨b,0,none⟩),.int .i64 t] w fun e w2=>∃ (u:Value) (P:List Rq),e=.returned u∧w2.cell? ⟨b,0,none⟩=some (.int .i64 now)∧w2.frozen? ⟨b,0,none⟩=false∧b<w2.heap.size∧Hid ((∀ z,z∈P→z∈M)∧P.Nodup∧(∀ z,z∈M→z.1≤t→z∈P)∧P.length≤400)∧Hid (GoI w b S M.length t M P u 0 (.slice none 0 0) (w2.setCell ⟨b,0,none⟩ (.int .i64 t)))):=Lib.hid (by
  refine (takeUp_any w b now _ S R t hm hi.n1 hi.n2 t1 t2 (by have:=hi.tk_len (n:=320) (Nat.le_refl _);have:=hi.len;omega)).mono (fun e w2 ⟨l,s,u,hs,hl5,hs6,he,hT2⟩=>?_)
  have hK:l * 64 + (s + 1)≤320:=by omega
  refine ⟨u,_,he,hT2.2.1.box.cnow,hT2.2.1.box.frozen _,hT2.2.1.box.lt,Lib.hid ⟨fun z hz=>?_,hi.tk_nd _ hK,fun z hz hd=>hi.due hs hs6 t1 hz hd,Nat.le_trans (hi.tk_len hK) hi.len⟩,Lib.hid (go_start hm hi hs hs6 t1 t2 hT2)⟩
  obtain ⟨k,_,h2,h3⟩:=tkL_mem.1 hz
  exact (hi.mem z).2 ⟨k,by omega,h3⟩)
 have HI:=Lib.hid hi
 generalize hPP:WgyA b S M t w=PP
 have d1:¬ t<now:=by omega
 clear hm hi hT
 go_enter Tryz.func25,Tryz.ntmps25
 go_upto_region 8 with (first
  | (go_at_call 51;refine (KT.out _).mono ?_;rintro e w2 ⟨rfl,hw⟩;replace hw:=hw.symm;subst hw)
  | (go_at_call 58;refine KU.out.mono ?_;rintro e w2 ⟨u,P,rfl,c2,f2,bl2,HP,HG⟩))
 obtain ⟨a,cap,eu,_⟩:=HG.out.rd
 subst eu
 have PL:P.length≤400:=HP.out.2.2.2
 have KD:Hid (∀ k dv X r,GoI w b S M.length t M P (.slice a P.length cap) k dv X→k<P.length→P.getD k zq=r→r.1≤t→∃ v' w3,Hid (∀ ty,(Builtin.append_ #[41,41] ty #[dv,.slice (some ⟨X.heap.size + 1,0,none⟩) 1 1]).run Tryz.prog ((X.alloc (.cells #[.int .i64 r.1,.string r.2.1,.int .i64 r.2.2.1,.int .i64 r.2.2.2.1,.int .i64 r.2.2.2.2] 45)).alloc (.cells #[.int .i64 r.1,.string r.2.1,.int .i64 r.2.2.1,.int .i64 r.2.2.2.1,.int .i64 r.2.2.2.2] 45))=.ok v' w3)∧Hid (GoI w b S M.length t M P (.slice a P.length cap) (k + 1) v' w3)):=Lib.hid (fun k dv X r hg hk hr hd=>by
  obtain ⟨v',w3,h1,h2⟩:=go_due (hg.onB (below_alloc X (.cells #[.int .i64 r.1,.string r.2.1,.int .i64 r.2.2.1,.int .i64 r.2.2.2.1,.int .i64 r.2.2.2.2] 45))) hk hr hd (by omega)
  rw [World.size_alloc] at h1
  exact ⟨v',w3,Lib.hid h1,Lib.hid h2⟩)
 have KL:Hid (∀ k dv X r,GoI w b S M.length t M P (.slice a P.length cap) k dv X→k<P.length→P.getD k zq=r→t<r.1→Calls Tryz.prog 57 #[.pointer (some ⟨b,0,none⟩),agQ r] (X.alloc (.cells #[.int .i64 r.1,.string r.2.1,.int .i64 r.2.2.1,.int .i64 r.2.2.2.1,.int .i64 r.2.2.2.2] 45)) fun e w4=>e=.returned (.tuple #[])∧Hid (GoI w b S M.length t M P (.slice a P.length cap) (k + 1) dv w4)):=Lib.hid (fun k dv X r hg hk hr hd=>(go_lay HI.out HP.out.1 HP.out.2.1 (hg.onB (below_alloc X (.cells #[.int .i64 r.1,.string r.2.1,.int .i64 r.2.2.1,.int .i64 r.2.2.2.1,.int .i64 r.2.2.2.2] 45))) hk hr hd).mono (fun e w4 ⟨h1,h2⟩=>⟨h1,Lib.hid h2⟩))
 have KE:Hid (∀ dv X,GoI w b S M.length t M P (.slice a P.length cap) P.length dv X→∃ (a:Option Addr) (d cap:Nat),dv=.slice a d cap∧d≤M.length∧X.cell? ⟨b,1,none⟩=some (.int .i64 (M.length:Int))∧X.frozen? ⟨b,1,none⟩=false∧b<X.heap.size∧
  Hid (Calls Tryz.prog 59 #[dv,.func (.func 13) #[] #[]] (X.setCell ⟨b,1,none⟩ (.int .i64 ((M.length:Int) - (d:Int)))) fun e w'=>e=.returned (.tuple #[])∧Hid (PP (.returned (.tuple #[dv,.nilIface])) w'))):=Lib.hid (fun dv X hg=>by
  obtain ⟨a',d,cap',h1,h2,h3,h4,h5,h6⟩:=go_end HI.out HP.out.1 HP.out.2.1 HP.out.2.2.1 hg
  refine ⟨a',d,cap',h1,by have:=due_later M t;omega,h3,h4,h5,Lib.hid (h6.mono (fun e w' ⟨q1,q2⟩=>⟨q1,Lib.hid (by rw [← hPP];exact q2)⟩))⟩)
 have RD:Hid (∀ k dv X,k<P.length→GoI w b S M.length t M P (.slice a P.length cap) k dv X→∃ bb off,a=some ⟨bb,off,none⟩∧At5 X bb (off + k * 5) (P.getD k zq)):=Lib.hid (fun k dv X hk hg=>by
  obtain ⟨a',cap',e',hc⟩:=hg.rd
  have hR:=hg.rd
  injection e' with e1 _ _
  rcases hc with hc | ⟨bb,off,ea,_⟩
  ·rw [hc] at hk;simp at hk
  ·have ea2:a=some ⟨bb,off,none⟩:=by rw [e1,ea]
   subst ea2
   exact ⟨bb,off,rfl,hR.at hk⟩)
 have ML:M.length≤400:=HI.out.len
 clear hPP HP HI
 generalize hGG:GoI w b S M.length t M P (.slice a P.length cap)=GG at *
 clear hGG
 generalize M.length=m at *
 clear KT KU c2 f2
 go_wp2_with fail
 go_loopw [7,9,30] (fun dv _ i wr=>∃ k:Nat,k≤P.length∧i=.int .i64 k∧Hid (GG k dv wr)) (fun _ _ i _=>P.length - (intOf i).toNat)
 case atStart=>exact ⟨0,Nat.zero_le _,rfl,HG⟩
 case round=>
  clear HG
  obtain ⟨k,hk,rfl,HG⟩:=hrel
  by_cases hlt:k<P.length
  ·obtain ⟨bb,off,ea,c5⟩:=RD.out k _ wr hlt HG.out
   subst ea
   have d1:decide ((k:Int)<(P.length:Int))=true:=decide_eq_true (by omega)
   have D1:=Lib.hid (KD.out k _ wr (P.getD k zq) HG.out hlt rfl)
   have L1:=Lib.hid (KL.out k _ wr (P.getD k zq) HG.out hlt rfl)
   generalize P.getD k zq=r at c5 D1 L1
   have cl:=c5.lt
   obtain ⟨k1,k2,k3,k4,k5⟩:=c5
   by_cases hd:r.1≤t
   ·obtain ⟨v',w3,AP,G3⟩:=D1.out hd
    clear D1 L1
    go_wp2_with (at_builtin;refine wpl_app _ rfl _ _ _ _ rfl _ _ rfl rfl (AP.out _) ?_)
    go_roundw
    case rel=>exact ⟨k + 1,by omega,by go_num,G3⟩
    case measure=>simp [intOf];omega
   ·have L2:=Lib.hid (L1.out (by omega))
    clear D1 L1
    go_wp2_with (go_at_call 57;refine L2.out.mono ?_;rintro e w4 ⟨rfl,G3⟩)
    go_roundw
    case rel=>exact ⟨k + 1,by omega,by go_num,G3⟩
    case measure=>simp [intOf];omega
  ·obtain rfl:k=P.length:=by omega
   obtain ⟨a',d,cap',ed,dm,c1,f1,b1,KS⟩:=KE.out _ wr HG.out
   subst ed
   have d1:decide ((P.length:Int)<(P.length:Int))=false:=decide_eq_false (by omega)
   clear KD KL KE RD HG
   go_wp2_with (go_at_call 59;refine KS.out.mono ?_;rintro e w5 ⟨rfl,FI⟩)
   exact FI.out
end Go.Proofs.YthdohcjingfpoaaGreatDoor.Qu
