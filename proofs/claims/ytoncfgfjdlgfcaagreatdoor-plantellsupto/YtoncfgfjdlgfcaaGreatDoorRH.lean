/-
  Texts of our own that serve the card of this claim, joined into one.
-/
import Derived.Test.YtoncfgfjdlgfcaaGreatDoorBG
import Derived.Deep.CutRange
import Derived.Test.YtoncfgfjdlgfcaaGreatDoorBK
import Derived.Maps.AppendAt
namespace Go.Proofs.YtoncfgfjdlgfcaaGreatDoor
open Go.RowKit Cal Txt
theorem want_m {r:Rl} {s n:Int} (h:(r.months.length == 0 || r.months.contains (mo n))=false):wantD r s n=false:=by unfold wantD;rw [h];simp
theorem want_d {r:Rl} {s n:Int} (h:(r.days.length == 0 || r.days.contains (da n) || r.days.contains (da n - ml (yr n) (mo n) - 1))=false):wantD r s n=false:=by unfold wantD;rw [h];simp
theorem want_w {r:Rl} {s n:Int} (h:(r.weeks.length == 0 || r.weeks.any (fitD · n))=false):wantD r s n=false:=by unfold wantD;rw [h];simp
theorem want_r {r:Rl} {s n:Int} (h1:(r.months.length == 0 || r.months.contains (mo n))=true) (h2:(r.days.length == 0 || r.days.contains (da n) || r.days.contains (da n - ml (yr n) (mo n) - 1))=true) (h3:(r.weeks.length == 0 || r.weeks.any (fitD · n))=true) :
 wantD r s n=(decide (0<r.days.length) || decide (0<r.weeks.length) || restD r s n):=by unfold wantD;rw [h1,h2,h3];simp
theorem any_succ {α:Type} (p:α→Bool) (l:List α) (j:Nat) (d:α) (h:j<l.length):(l.take (j + 1)).any p=((l.take j).any p || p (l.getD j d)):=by
 rw [List.take_add_one,List.any_append,List.getElem?_eq_getElem h,List.getD_eq_getElem?_getD,List.getElem?_eq_getElem h]
 simp
theorem len_zero (l:Nat):((l:Int) == 0)=(l == 0 || false):=by
 rw [Bool.or_false]
 by_cases h:l=0
 ·rw [h];rfl
 ·rw [beq_eq_false_iff_ne.2 h,beq_eq_false_iff_ne.2 (by omega:¬ (l:Int)=0)]
theorem fitD_at {q:Int × Int} {n X Z x y:Int} (hx:x=(nfst n).1) (hy:y=(nlst n).1) (hX:X=q.1) (hZ:Z=q.2):fitD q n=(Z == wd n && (X == 0 || X == x || X == y)):=by rw [hx,hy,hX,hZ];rfl
set_option maxRecDepth 100000 in
set_option maxHeartbeats 8000000 in
theorem refWanted_any (r:Rl) (v:Value) (s n:Int) (w:World) (hv:RuleIn w v r) (hs:Sm r) (s1:1≤s) (s2:s≤109573) (n1:1≤n) (n2:n≤109573) :
 Calls Tryz.prog 190 #[v,.int .i64 s,.int .i64 n] w fun e w'=>e=.returned (.bool (wantD r s n))∧Below w.heap.size w w':=by
 have HV:=Lib.hid (fun W (q:Below w.heap.size w W)=>hv.on q)
 obtain ⟨vm,vd,vw,vp,rfl,hm,hd,hw,hp⟩:=hv
 have HM:=Lib.hid (fun W (q:Below w.heap.size w W)=>hm.on q)
 have HD:=Lib.hid (fun W (q:Below w.heap.size w W)=>hd.on q)
 have HW:=Lib.hid (fun W (q:Below w.heap.size w W)=>hw.on q)
 obtain ⟨am,cm,rfl,hmx⟩:=hm
 clear hmx
 obtain ⟨ad,cd,rfl,hdx⟩:=hd
 clear hdx
 obtain ⟨aw,cw,rfl,hwx⟩:=hw
 clear hwx
 obtain ⟨ap,cp,rfl,hpx⟩:=hp
 clear hpx
 obtain ⟨y1,y2,m1,m2,d1,d2⟩:=date_ok n1 n2
 have lb:=ml_bd (yr n) (mo n)
 have HS:=Lib.hid hs
 obtain ⟨lm,hlm⟩:∃ lm,lm=r.months.length:=⟨_,rfl⟩
 obtain ⟨ld,hld⟩:∃ ld,ld=r.days.length:=⟨_,rfl⟩
 obtain ⟨lw,hlw⟩:∃ lw,lw=r.weeks.length:=⟨_,rfl⟩
 obtain ⟨lp,hlp⟩:∃ lp,lp=r.pick.length:=⟨_,rfl⟩
 rw [← hlm] at HM ⊢
 rw [← hld] at HD ⊢
 rw [← hlw] at HW ⊢
 rw [← hlp]
 have LM:=Lib.hid hlm
 have LD:=Lib.hid hld
 have LW:=Lib.hid hlw
 have lms:lm≤31:=by rw [hlm];exact hs.1
 have lds:ld≤31:=by rw [hld];exact hs.2.1
 have lws:lw≤31:=by rw [hlw];exact hs.2.2
 clear hlm hld hlw hlp hs HV
 have B0:=(Below.refl w.heap.size w).alloc (Nat.le_refl _) (.cells #[.int .i64 r.freq,.int .i64 r.every,.int .i64 r.count,.int .i64 r.till,.slice am lm cm,.slice ad ld cd,.slice aw lw cw,.slice ap lp cp] 29)
 have HR:=Lib.hid (RBox.new w r.freq r.every r.count r.till (.slice am lm cm) (.slice ad ld cd) (.slice aw lw cw) (.slice ap lp cp) 29)
 have HB:=Lib.hid B0
 clear B0
 go_enter Tryz.func190,Tryz.ntmps190
 go_wp2_with fail
 generalize w.alloc (.cells #[.int .i64 r.freq,.int .i64 r.every,.int .i64 r.count,.int .i64 r.till,.slice am lm cm,.slice ad ld cd,.slice aw lw cw,.slice ap lp cp] 29)=W0 at HB HR ⊢
 refine (refDate_yes n _ n1 n2).mono ?_
 rintro e w1 ⟨rfl,hb⟩
 have A1:Below w1.heap.size w1 (w1.alloc (.cells #[.int .i64 (yr n),.int .i64 (mo n),.int .i64 (da n)] 88)):=(Below.refl _ _).alloc (Nat.le_refl _) _
 have B1':=HB.out.trans (hb.mono HB.out.size)
 have B1:=Lib.hid (B1'.trans (A1.mono B1'.size))
 have R1:=Lib.hid ((HR.out.on hb).on A1)
 have D1:=Lib.hid (Dat.new w1 (yr n) (mo n) (da n) 88)
 clear hb A1 B1' HB HR
 go_wp2_with fail
 generalize w1.alloc (.cells #[.int .i64 (yr n),.int .i64 (mo n),.int .i64 (da n)] 88)=W1 at B1 R1 D1 ⊢
 refine (refDate_yes s _ s1 s2).mono ?_
 rintro e w2 ⟨rfl,hb⟩
 have A2:Below w2.heap.size w2 (w2.alloc (.cells #[.int .i64 (yr s),.int .i64 (mo s),.int .i64 (da s)] 88)):=(Below.refl _ _).alloc (Nat.le_refl _) _
 have B2':=B1.out.trans (hb.mono B1.out.size)
 have B2:=Lib.hid (B2'.trans (A2.mono B2'.size))
 have R2:=Lib.hid ((R1.out.on hb).on A2)
 have D2:=Lib.hid ((D1.out.on hb).on A2)
 have S2:=Lib.hid (Dat.new w2 (yr s) (mo s) (da s) 88)
 have dl:=(D1.out.on hb).lt
 obtain ⟨c1,c2,c3⟩:=D1.out.on hb
 clear hb A2 B2' B1 R1 D1
 go_wp2_with fail
 clear c1 c2 c3 dl
 generalize w2.alloc (.cells #[.int .i64 (yr s),.int .i64 (mo s),.int .i64 (da s)] 88)=W2 at B2 R2 D2 S2 ⊢
 refine (refDays_yes (yr n) (mo n) _ y1 y2 m1 m2).mono ?_
 rintro e w3 ⟨rfl,hx⟩
 subst hx
 have KM:=Lib.hid (refIn_any _ r.months (mo n) w3 (HM.out _ B2.out) (by rw [← LM.out];omega))
 have KD:=Lib.hid (refIn_any _ r.days (da n) w3 (HD.out _ B2.out) (by rw [← LD.out];omega))
 have KE:=Lib.hid (refIn_any _ r.days (da n - ml (yr n) (mo n) - 1) w3 (HD.out _ B2.out) (by rw [← LD.out];omega))
 have EM:Hid (∃ b,b=r.months.contains (mo n)):=Lib.hid ⟨_,rfl⟩
 have ED:Hid (∃ b,b=r.days.contains (da n)):=Lib.hid ⟨_,rfl⟩
 have EE:Hid (∃ b,b=r.days.contains (da n - ml (yr n) (mo n) - 1)):=Lib.hid ⟨_,rfl⟩
 obtain ⟨bm,hbm⟩:=EM.out
 obtain ⟨bd,hbd⟩:=ED.out
 obtain ⟨be,hbe⟩:=EE.out
 rw [← hbm] at KM
 rw [← hbd] at KD
 rw [← hbe] at KE
 have HBM:=Lib.hid hbm
 have HBD:=Lib.hid hbd
 have HBE:=Lib.hid hbe
 clear hbm hbd hbe EM ED EE
 have ql:=R2.out.lt
 have dl:=D2.out.lt
 have sl:=S2.out.lt
 obtain ⟨q0,q1,q2,q3,q4,q5,q6,q7⟩:=R2.out
 obtain ⟨c1,c2,c3⟩:=D2.out
 go_wp2_with fail
 refine KM.out.mono ?_
 rintro e w4 ⟨rfl,hx⟩
 subst hx
 clear KM
 rcases h1:(lm == 0 || bm) with _ | _
 ·have N0:Hid (wantD r s n=false):=Lib.hid (want_m (by rw [← LM.out,← HBM.out];exact h1))
  rcases bm with _ | _
  ·have l0:(0:Int)<lm:=by
    simp at h1;omega
   clear h1
   go_wp2
   go_ret
   exact ⟨ret_bool N0.out.symm,B2.out⟩
  ·simp at h1
 have H1:=Lib.hid h1
 clear h1
 go_upto_region 5 with fail
 go_cut [47] from 20 to 164 (fun sv wx=>sv=.bool false∧wx=w4)
 case first=>
  by_cases l0:lm=0
  ·subst l0
   go_wp2_with fail
   go_meet
   case rel=>exact ⟨rfl,rfl⟩
  ·have l1:(0:Int)<lm:=by omega
   have b1:bm=true:=by have:=H1.out;simp [l0] at this;exact this
   subst b1
   clear l0
   go_wp2_with fail
   go_meet
   case rel=>exact ⟨rfl,rfl⟩
 case rest=>
 obtain ⟨rfl,hx⟩:=hcut
 subst hx
 go_wp2_with fail
 refine KD.out.mono ?_
 rintro e w5 ⟨rfl,hx⟩
 subst hx
 clear KD
 go_wp2_with fail
 refine KE.out.mono ?_
 rintro e w5 ⟨rfl,hx⟩
 subst hx
 clear KE
 rcases h2:(ld == 0 || bd || be) with _ | _
 ·have N0:Hid (wantD r s n=false):=Lib.hid (want_d (by rw [← LD.out,← HBD.out,← HBE.out];exact h2))
  rcases bd with _ | _
  ·rcases be with _ | _
   ·have l0:(0:Int)<ld:=by
     simp at h2;omega
    clear h2
    go_wp2
    go_ret
    exact ⟨ret_bool N0.out.symm,B2.out⟩
   ·simp at h2
  ·simp at h2
 have H2:=Lib.hid h2
 clear h2
 go_upto_region 9 with fail
 go_cut [72] from 20 to 164 (fun sv wx=>sv=.bool false∧wx=w5)
 case first=>
  by_cases l0:ld=0
  ·subst l0
   go_wp2_with fail
   go_meet
   case rel=>exact ⟨rfl,rfl⟩
  ·have l1:(0:Int)<ld:=by omega
   have b1:(bd || be)=true:=by have:=H2.out;simp [l0] at this;simpa using this
   clear l0
   rcases bd with _ | _
   ·rcases be with _ | _
    ·cases b1
    ·go_wp2_with fail
     go_meet
     case rel=>exact ⟨rfl,rfl⟩
   ·go_wp2_with fail
    go_meet
    case rel=>exact ⟨rfl,rfl⟩
 case rest=>
 obtain ⟨rfl,hx⟩:=hcut
 subst hx
 clear q0 q1 q2 q3 q4 q5 q6 q7 c1 c2 c3 ql dl sl
 go_wp2_with fail
 refine (refEnds_yes n _ n1 n2).mono ?_
 rintro e w6 ⟨rfl,hb⟩
 have B6:=Lib.hid (B2.out.trans (hb.mono B2.out.size))
 have R6:=Lib.hid (R2.out.on hb)
 have D6:=Lib.hid (D2.out.on hb)
 have S6:=Lib.hid (S2.out.on hb)
 rw [show -((ml (yr n) (mo n) - da n) / 7 + 1)=(nlst n).1 by show _=-((ml (yr n) (mo n) - da n) / 7) - 1;omega,show (da n - 1) / 7 + 1=(nfst n).1 from rfl]
 have NX:Hid (∃ x y,x=(nfst n).1∧y=(nlst n).1):=Lib.hid ⟨_,_,rfl,rfl⟩
 obtain ⟨x,y,hx,hy⟩:=NX.out
 rw [← hx,← hy]
 have HX:=Lib.hid hx
 have HY:=Lib.hid hy
 clear hx hy NX hb B2 R2 D2 S2
 have ql:=R6.out.lt
 obtain ⟨q0,q1,q2,q3,q4,q5,q6,q7⟩:=R6.out
 go_wp2_with fail
 clear q0 q1 q2 q3 q4 q5 q6 q7 ql
 go_loopw [17,18] (fun f i wr=>∃ j:Nat,j≤lw∧i=.int .i64 j∧f=.bool (lw == 0 || (r.weeks.take j).any (fitD · n))∧Below w6.heap.size w6 wr) (fun _ i _=>lw - (intOf i).toNat)
 case atStart=>exact ⟨0,Nat.zero_le _,rfl,congrArg Value.bool (len_zero lw),Below.refl _ _⟩
 case round=>
  obtain ⟨j,hj,rfl,hf,hB⟩:=hrel
  obtain ⟨fb,hfb⟩:∃ fb,fb=(lw == 0 || (r.weeks.take j).any (fitD · n)):=⟨_,rfl⟩
  rw [← hfb] at hf
  subst hf
  have HFB:=Lib.hid hfb
  clear hfb
  have R7:=R6.out.on hB
  have ql:=R7.lt
  obtain ⟨q0,q1,q2,q3,q4,q5,q6,q7⟩:=R7
  by_cases hlt:j<lw
  ·obtain ⟨a',c',e',hc⟩:=HW.out _ (B6.out.trans (hB.mono B6.out.size))
   obtain ⟨rfl,hl',rfl⟩:aw=a'∧lw=r.weeks.length∧cw=c':=by simpa using e'
   rcases hc with hc | ⟨b,off,rfl,hc⟩
   ·rw [hl',hc] at hlt;simp at hlt
   obtain ⟨k1,k2⟩:=hc j (by rw [← hl'];exact hlt)
   obtain ⟨X,hX⟩:∃ X,X=(r.weeks.getD j (0,0)).1:=⟨_,rfl⟩
   obtain ⟨Z,hZ⟩:∃ Z,Z=(r.weeks.getD j (0,0)).2:=⟨_,rfl⟩
   rw [← hX] at k1
   rw [← hZ] at k2
   have bl:=cell_in k1
   have z0:(lw == 0)=false:=beq_eq_false_iff_ne.2 (by omega)
   have NX:Hid ((lw == 0 || (r.weeks.take (j + 1)).any (fitD · n))=(fb || (Z == wd n && (X == 0 || X == x || X == y)))):=Lib.hid (by
    rw [any_succ _ _ j (0,0) (by rw [← hl'];exact hlt),HFB.out,z0,fitD_at HX.out HY.out hX hZ];simp)
   have bl2:b<wr.heap.size:=bl
   clear hX hZ hc e' hl' z0 bl
   rcases fb with _ | _
   case true=>
    go_wp2_with fail
    go_big_quiet ((go_at_call 234;exact Calls.quiet_of_same (refWeekday_wd _ _ n1 n2)))
    go_wp2
    go_roundw
    case rel=>exact ⟨j + 1,by omega,by go_num,congrArg Value.bool (by rw [NX.out];rfl),below_drewN (hB.alloc hB.size _) _⟩
    case measure=>simp [intOf];omega
   rcases e1:(Z == wd n) with _ | _
   ·go_wp2_with fail
    go_big_quiet ((go_at_call 234;exact Calls.quiet_of_same (refWeekday_wd _ _ n1 n2)))
    go_wp2
    go_roundw
    case rel=>exact ⟨j + 1,by omega,by go_num,congrArg Value.bool (by rw [NX.out];simp [e1]),below_drewN (hB.alloc hB.size _) _⟩
    case measure=>simp [intOf];omega
   rcases e2:(X == 0) with _ | _
   case true=>
    go_wp2_with fail
    go_big_quiet ((go_at_call 234;exact Calls.quiet_of_same (refWeekday_wd _ _ n1 n2)))
    go_wp2
    go_roundw
    case rel=>exact ⟨j + 1,by omega,by go_num,congrArg Value.bool (by rw [NX.out];simp [e1,e2]),below_drewN (hB.alloc hB.size _) _⟩
    case measure=>simp [intOf];omega
   rcases e3:(X == x) with _ | _
   case true=>
    go_wp2_with fail
    go_big_quiet ((go_at_call 234;exact Calls.quiet_of_same (refWeekday_wd _ _ n1 n2)))
    go_wp2
    go_roundw
    case rel=>exact ⟨j + 1,by omega,by go_num,congrArg Value.bool (by rw [NX.out];simp [e1,e2,e3]),below_drewN (hB.alloc hB.size _) _⟩
    case measure=>simp [intOf];omega
   rcases e4:(X == y) with _ | _
   ·go_wp2_with fail
    go_big_quiet ((go_at_call 234;exact Calls.quiet_of_same (refWeekday_wd _ _ n1 n2)))
    go_wp2
    go_roundw
    case rel=>exact ⟨j + 1,by omega,by go_num,congrArg Value.bool (by rw [NX.out];simp [e1,e2,e3,e4]),below_drewN (hB.alloc hB.size _) _⟩
    case measure=>simp [intOf];omega
   ·go_wp2_with fail
    go_big_quiet ((go_at_call 234;exact Calls.quiet_of_same (refWeekday_wd _ _ n1 n2)))
    go_wp2
    go_roundw
    case rel=>exact ⟨j + 1,by omega,by go_num,congrArg Value.bool (by rw [NX.out];simp [e1,e2,e3,e4]),below_drewN (hB.alloc hB.size _) _⟩
    case measure=>simp [intOf];omega
  ·have FE:Hid (fb=(lw == 0 || r.weeks.any (fitD · n))):=Lib.hid (by rw [HFB.out,List.take_of_length_le (by rw [← LW.out];omega)])
   have B7:=Lib.hid (B6.out.trans (hB.mono B6.out.size))
   have D7:=D6.out.on hB
   have S7:=S6.out.on hB
   have dl:=D7.lt
   have sl:=S7.lt
   obtain ⟨c1,c2,c3⟩:=D7
   obtain ⟨g1,g2,g3⟩:=S7
   clear HFB
   rcases fb with _ | _
   ·have N0:Hid (wantD r s n=false):=Lib.hid (want_w (by rw [← LW.out,← FE.out]))
    go_wp2
    go_ret
    exact ⟨ret_bool N0.out.symm,B7.out⟩
   have WR:Hid (wantD r s n=(decide (0<ld) || decide (0<lw) || restD r s n)):=Lib.hid (by
    rw [LD.out,LW.out]
    exact want_r (by rw [← LM.out,← HBM.out];exact H1.out) (by rw [← LD.out,← HBD.out,← HBE.out];exact H2.out) (by rw [← LW.out,← FE.out]))
   by_cases d0:(0:Int)<ld
   ·have N1:Hid (wantD r s n=true):=Lib.hid (by rw [WR.out,decide_eq_true (by omega:0<ld)];rfl)
    go_wp2
    go_ret
    exact ⟨ret_bool N1.out.symm,B7.out⟩
   by_cases w0:(0:Int)<lw
   ·have N1:Hid (wantD r s n=true):=Lib.hid (by rw [WR.out,decide_eq_true (by omega:0<lw),Bool.or_true];rfl)
    go_wp2
    go_ret
    exact ⟨ret_bool N1.out.symm,B7.out⟩
   have WQ:Hid (wantD r s n=restD r s n):=Lib.hid (by rw [WR.out,decide_eq_false (by omega:¬ 0<ld),decide_eq_false (by omega:¬ 0<lw)];rfl)
   clear WR
   rcases e1:(r.freq == 1) with _ | _
   case true=>
    have N1:Hid (wantD r s n=true):=Lib.hid (by rw [WQ.out];exact if_pos (by simpa using e1))
    go_wp2
    go_ret
    exact ⟨ret_bool N1.out.symm,B7.out⟩
   have f1:Hid (¬ r.freq=1):=Lib.hid (by simpa using e1)
   rcases e2:(r.freq == 2) with _ | _
   case true=>
    have N1:Hid (wantD r s n=(wd n == wd s)):=Lib.hid (by rw [WQ.out];unfold restD;rw [if_neg f1.out,if_pos (by simpa using e2)])
    go_wp2_with fail
    refine (refWeekday_wd n _ n1 n2).mono ?_
    rintro e w8 ⟨rfl,hx⟩
    subst hx
    go_wp2_with fail
    refine (refWeekday_wd s _ s1 s2).mono ?_
    rintro e w8 ⟨rfl,hx⟩
    subst hx
    go_wp2
    go_ret
    exact ⟨ret_bool N1.out.symm,B7.out⟩
   have WS:Hid (wantD r s n=(da n == da s && (decide (r.freq=3) || decide (0<lm) || mo n == mo s))):=Lib.hid (by rw [WQ.out,LM.out];unfold restD;rw [if_neg f1.out,if_neg (by simpa using e2)])
   clear WQ
   rcases e3:(da n != da s) with _ | _
   case true=>
    have N1:Hid (wantD r s n=false):=Lib.hid (by rw [WS.out,show (da n == da s)=false by simpa using e3];rfl)
    go_wp2
    go_ret
    exact ⟨ret_bool N1.out.symm,B7.out⟩
   have WT:Hid (wantD r s n=(decide (r.freq=3) || decide (0<lm) || mo n == mo s)):=Lib.hid (by rw [WS.out,show (da n == da s)=true by simpa using e3,Bool.true_and])
   clear WS
   have e3':¬ da n≠da s:=by simpa using e3
   rcases e4:(r.freq == 3) with _ | _
   case true=>
    have N1:Hid (wantD r s n=true):=Lib.hid (by rw [WT.out,decide_eq_true (by simpa using e4:r.freq=3)];rfl)
    go_wp2
    go_ret
    exact ⟨ret_bool N1.out.symm,B7.out⟩
   have f3:Hid (¬ r.freq=3):=Lib.hid (by simpa using e4)
   by_cases m0:(0:Int)<lm
   ·have N1:Hid (wantD r s n=true):=Lib.hid (by rw [WT.out,decide_eq_true (by omega:0<lm),Bool.or_true];rfl)
    go_wp2
    go_ret
    exact ⟨ret_bool N1.out.symm,B7.out⟩
   ·have N1:Hid (wantD r s n=(mo n == mo s)):=Lib.hid (by rw [WT.out,decide_eq_false f3.out,decide_eq_false (by omega:¬ 0<lm)];rfl)
    go_wp2
    go_ret
    exact ⟨ret_bool N1.out.symm,B7.out⟩
end Go.Proofs.YtoncfgfjdlgfcaaGreatDoor
namespace Go.Proofs.YtoncfgfjdlgfcaaGreatDoor
open Go.RowKit Cal Txt
def PeA (w:World) (o:Option (List Int)) (e:Ending) (w':World):Prop:=
 Below w.heap.size w w'∧((o=none∧e=.returned (.tuple #[.slice none 0 0,.bool false]))∨∃ l v,o=some l∧e=.returned (.tuple #[v,.bool true])∧Ints w' v l∧Fr w.heap.size v)
theorem wname {B:Nat} {a w:World} (_:Below B a w):∃ x,x=w:=⟨w,rfl⟩
theorem rf_sm {r:Rl} (h:rf r=0):Sm r:=by
 obtain ⟨h1,h2,h3,_⟩:=rf_ok2 h
 exact ⟨by omega,by omega,by omega⟩
set_option maxRecDepth 100000 in
set_option maxHeartbeats 8000000 in
theorem refPeriod_any (r:Rl) (v:Value) (s k:Int) (w:World) (hv:RuleIn w v r) (hz:rf r=0) (s1:1≤s) (s2:s≤109573) :
 Calls Tryz.prog 153 #[v,.int .i64 s,.int .i64 k] w (PeA w (pD r s k)):=by
 obtain ⟨i0,hi,hz0,hz1,hz2⟩:=info_parts info_per_int
 have HV:=Lib.hid (fun W (q:Below w.heap.size w W)=>hv.on q)
 have KW:=Lib.hid (fun n (n1:1≤n) (n2:n≤109573) W (q:Below w.heap.size w W)=>refWanted_any r v s n W (hv.on q) (rf_sm hz) s1 s2 n1 n2)
 have HP:=Lib.hid (fun W (q:Below w.heap.size w W)=>(by obtain ⟨vm,vd,vw,vp,rfl,_,_,_,hp⟩:=hv;exact ⟨vm,vd,vw,vp,rfl,hp.on q⟩:∃ vm vd vw vp,v=.agg #[.int .i64 r.freq,.int .i64 r.every,.int .i64 r.count,.int .i64 r.till,vm,vd,vw,vp]∧Ints W vp r.pick))
 have WA:=Lib.hid (fun n (n1:1≤n) (n2:n≤109573)=>want_ask (r:=r) (s:=s) (rf_nums hz).1.1 (rf_nums hz).1.2 s1 s2 n1 n2)
 have PL:=(rf_ok2 hz).2.2.2
 obtain ⟨am,ad,aw,ap,cm,cd,cw,cp,rfl⟩:=rule_form hv
 have B0:=(Below.refl w.heap.size w).alloc (Nat.le_refl _) (.cells #[.int .i64 r.freq,.int .i64 r.every,.int .i64 r.count,.int .i64 r.till,.slice am r.months.length cm,.slice ad r.days.length cd,.slice aw r.weeks.length cw,.slice ap r.pick.length cp] 29)
 have KB:=Lib.hid (refBegin_any r _ s k _ (hv.on B0) hz s1 s2)
 have HR:=Lib.hid (RBox.new w r.freq r.every r.count r.till (.slice am r.months.length cm) (.slice ad r.days.length cd) (.slice aw r.weeks.length cw) (.slice ap r.pick.length cp) 29)
 have HB:=Lib.hid B0
 clear B0 hv hz
 go_enter Tryz.func153,Tryz.ntmps153
 go_wp2_with fail
 generalize w.alloc (.cells #[.int .i64 r.freq,.int .i64 r.every,.int .i64 r.count,.int .i64 r.till,.slice am r.months.length cm,.slice ad r.days.length cd,.slice aw r.weeks.length cw,.slice ap r.pick.length cp] 29)=W0 at HB KB HR ⊢
 refine KB.out.mono ?_
 rintro e w1 ⟨⟨a,m,bo,rfl,hbg⟩,hb⟩
 have B1:=Lib.hid (HB.out.trans (hb.mono HB.out.size))
 have R1:=Lib.hid (HR.out.on hb)
 clear hb KB HB HR
 rcases hbg with ⟨ho,rfl⟩ | ⟨rfl,ho⟩
 ·have N0:Hid (pD r s k=none):=Lib.hid (by unfold pD;rw [ho])
  clear ho
  go_wp2
  go_ret2
  exact ⟨B1.out,Or.inl ⟨N0.out,rfl⟩⟩
 have N1:Hid (pD r s k=some (perD r s a (min m 109573))):=Lib.hid (by unfold pD;rw [ho])
 have LN:=pE_len ho
 obtain ⟨a1,ab,bL⟩:=pE_in ho
 obtain ⟨b,hbm⟩:∃ b,b=min m 109573:=⟨_,rfl⟩
 rw [← hbm] at N1 LN ab bL
 have HBM:=Lib.hid hbm
 clear ho hbm
 go_wp2_with fail
 go_loopw [11,12] (fun lv nv wr=>∃ j:Nat,j≤(b + 1 - a).toNat∧nv=.int .i64 (a + (j:Int))∧wr.ownsRow w1.heap.size 3 1 lv (ask (comp r s) a j).length (nums (ask (comp r s) a j))∧Below w1.heap.size w1 wr) (fun _ nv _=>(b + 1 - intOf nv).toNat)
 case atStart=>exact ⟨0,Nat.zero_le _,by simp,World.ownsRow_nil _ _ _ _,Below.refl _ _⟩
 case round=>
  obtain ⟨j,hj,rfl,hown,hB⟩:=hrel
  have HO:=Lib.hid hown
  have Bw:=B1.out.trans (hB.mono B1.out.size)
  have Rw:=R1.out.on hB
  have AL:=ask_len (comp r s) a j
  clear hown
  by_cases hlt:a + (j:Int)≤b
  ·obtain ⟨n,hn⟩:∃ n,n=a + (j:Int):=⟨_,rfl⟩
   rw [← hn] at hlt
   rw [← hn]
   have n1:1≤n:=by omega
   have n2:n≤109573:=by omega
   have n3:n≤m:=by have:=HBM.out;omega
   have J1:Hid (n + 1=a + ((j + 1:Nat):Int)):=Lib.hid (by omega)
   have J2:j + 1≤(b + 1 - a).toNat:=by omega
   have ME:Hid ((b + 1 - (n + 1)).toNat<(b + 1 - n).toNat):=Lib.hid (by omega)
   have AN:=Lib.hid (ask_next (comp r s) a j)
   rw [← hn] at AN
   have KQ:=Lib.hid (KW.out n n1 n2 wr Bw)
   rw [WA.out n n1 n2] at KQ
   have HBr:=Lib.hid hB
   have rl:=Rw.lt
   obtain ⟨x0,x1,x2,x3,x4,x5,x6,x7⟩:=Rw
   clear hn hB Bw
   generalize ask (comp r s) a j=xs at HO AN AL
   rcases hq:askB (comp r s) n with _ | _
   ·rw [hq] at KQ
    have M1:Hid (ask (comp r s) a (j + 1)=xs):=Lib.hid (by rw [AN.out,if_neg (by rw [hq];decide)])
    clear hq AN
    go_wp2_with fail
    clear x0 x1 x2 x3 x4 x5 x6 x7 rl
    refine KQ.out.mono ?_
    rintro e w2 ⟨rfl,hb⟩
    have B2:=Lib.hid (HBr.out.trans (hb.mono HBr.out.size))
    have O2:=Lib.hid (ow_below HO.out hb)
    clear hb KQ HO HBr
    go_wp2
    go_roundw
    case rel=>exact ⟨j + 1,J2,by rw [J1.out],by rw [M1.out];exact O2.out,B2.out⟩
    case measure=>exact ME.out
   ·rw [hq] at KQ
    have M1:Hid (ask (comp r s) a (j + 1)=xs++[n]):=Lib.hid (by rw [AN.out,if_pos hq])
    clear hq AN
    go_wp2_with fail
    clear x0 x1 x2 x3 x4 x5 x6 x7 rl
    refine KQ.out.mono ?_
    rintro e w2 ⟨rfl,hb⟩
    have B2':=HBr.out.trans (hb.mono HBr.out.size)
    have B2:=Lib.hid B2'
    have sz:=B2'.size
    have O2:=Lib.hid (ow_below HO.out hb)
    clear hb KQ HO HBr B2'
    go_wp2_with (at_builtin;refine wpList_append_own _ rfl _ _ 26 rfl w1.heap.size 3 i0 (.int .i64 0) 1 8 Tryz.underlying26 hi hz0 hz1 hz2 rfl (by decide) _ _ _ rfl (O2.out.alloc _) ⟨w2.heap.size,0,none⟩ 1 1 [.int .i64 n] rfl rfl ?c1 ?c2 ?c3 ?c4 ?c5 ?_)
    case c1=>
     intro j u hj
     match j,hj with
     | 0,hj=>simp at hj;subst hj;simp [Addr.add]
    case c2=>intro u hu;simp at hu;subst hu;rfl
    case c3=>unfold maxLen;omega
    case c4=>omega
    case c5=>simp;omega
    intro v' w3 hown' hgrow _
    have Q2:=Lib.hid (ow_grow B2.out.size B2.out (Below.refl _ _) O2.out hgrow)
    have Q1:=Lib.hid hown'
    rw [← nums_snoc] at Q1
    clear hown' hgrow O2
    go_wp2
    go_roundw
    case rel=>exact ⟨j + 1,J2,by rw [J1.out],by rw [M1.out,List.length_append];exact Q1.out,Q2.out⟩
    case measure=>exact ME.out
  ·obtain rfl:j=(b + 1 - a).toNat:=by omega
   have ED:Hid (allD r s a b=ask (comp r s) a (b + 1 - a).toNat):=Lib.hid rfl
   have IL:=Lib.hid (ow_ints HO.out)
   have FL:=Lib.hid (show Fr w.heap.size _ from fun g hg=>Nat.le_trans B1.out.size (HO.out.lt g hg).1)
   rw [← ED.out] at IL HO AL
   have nb:a + (((b + 1 - a).toNat:Nat):Int)=b + 1:=by omega
   rw [nb]
   have DL:(allD r s a b).length≤401:=by omega
   obtain ⟨la,lc,el,_⟩:=id IL.out
   subst el
   have rl:=Rw.lt
   have HRw:=Lib.hid Rw
   obtain ⟨x0,x1,x2,x3,x4,x5,x6,x7⟩:=Rw
   have HBw:=Lib.hid Bw
   have HBr:=Lib.hid hB
   have bm:¬ (b + 1≤m∧b + 1≤109573):=by have:=HBM.out;omega
   clear hlt hj hB Bw nb HO AL ED
   rcases hp0:((r.pick.length:Int) == 0) with _ | _
   ·have EP:Hid (perD r s a b=pickK r.pick (allD r s a b) (allD r s a b).length):=Lib.hid (by unfold perD pick;rw [if_neg (by have:=beq_eq_false_iff_ne.1 hp0;omega)])
    have PI:Hid (∀ W,Below wr.heap.size wr W→Ints W (.slice ap r.pick.length cp) r.pick):=Lib.hid (fun W q=>by
     obtain ⟨vm,vd,vw,vp,e,h⟩:=HP.out _ (HBw.out.trans (q.mono HBw.out.size))
     obtain rfl:vp=.slice ap r.pick.length cp:=by simp at e;exact e.2.2.2.symm
     exact h)
    obtain ⟨days,hdays⟩:∃ days,days=allD r s a b:=⟨_,rfl⟩
    rw [← hdays] at EP DL IL
    rw [← hdays]
    clear hdays
    rcases (by omega:m<b + 1∨(b + 1≤m∧109573<b + 1)) with g | ⟨g,g'⟩
    all_goals
     go_wp2_with fail
     clear x0 x1 x2 x3 x4 x5 x6 x7 rl
     go_loopw [14,15] (fun ov iv wx=>∃ i:Nat,i≤days.length∧iv=.int .i64 i∧wx.ownsRow wr.heap.size 3 1 ov (pickK r.pick days i).length (nums (pickK r.pick days i))∧Below wr.heap.size wr wx) (fun _ iv _=>days.length - (intOf iv).toNat)
     case atStart=>exact ⟨0,Nat.zero_le _,rfl,World.ownsRow_nil _ _ _ _,Below.refl _ _⟩
     case round=>
      obtain ⟨i,hi',rfl,hown,hB⟩:=hrel
      obtain ⟨wx,hwx⟩:=wname hB
      subst hwx
      have HO:=Lib.hid hown
      have PK:=pickK_len r.pick days i
      clear hown
      by_cases hlt:i<days.length
      ·obtain ⟨la',lc',e',hc⟩:=IL.out.on hB
       obtain ⟨rfl,rfl⟩:la=la'∧lc=lc':=by simpa using e'
       rcases hc with hc | ⟨lb,lo,rfl,hc⟩
       ·rw [hc] at hlt;simp at hlt
       have k1:=hc i hlt
       obtain ⟨x,hx⟩:∃ x,x=days.getD i 0:=⟨_,rfl⟩
       rw [← hx] at k1
       have HX:=Lib.hid hx
       have NX:=Lib.hid (pickK_next r.pick days i)
       have K1:=Lib.hid (refIn_any _ r.pick ((i:Int) + 1) _ (PI.out _ hB) (by omega))
       have K2:=Lib.hid (refIn_any _ r.pick ((i:Int) - (days.length:Int)) _ (PI.out _ hB) (by omega))
       obtain ⟨A,hA⟩:∃ A,A=r.pick.contains ((i:Int) + 1):=⟨_,rfl⟩
       obtain ⟨C,hC⟩:∃ C,C=r.pick.contains ((i:Int) - (days.length:Int)):=⟨_,rfl⟩
       have EN:Hid (nameB r.pick ((i:Int) + 1) (days.length:Int)=(A || C)):=Lib.hid (by unfold nameB;rw [show (i:Int) + 1 - (days.length:Int) - 1=(i:Int) - (days.length:Int) by omega,hA,hC])
       rw [← hA] at K1
       rw [← hC] at K2
       rw [EN.out,← HX.out] at NX
       have Rw:=HRw.out.on hB
       have rl:=Rw.lt
       have x7:=Rw.2.2.2.2.2.2.2
       have HBx:=Lib.hid hB
       have szx:=hB.size
       clear hx hc e' hA hC EN Rw hB
       generalize hs:pickK r.pick days i=xs at HO NX PK
       clear hs
       rcases A with _ | _
       ·rcases C with _ | _
        ·have M1:Hid (pickK r.pick days (i + 1)=xs):=Lib.hid (by rw [NX.out];rfl)
         go_wp2_with fail
         refine K1.out.mono ?_
         rintro e w2 ⟨rfl,hw⟩
         replace hw:=hw.symm
         subst hw
         go_wp2_with fail
         refine K2.out.mono ?_
         rintro e w2 ⟨rfl,hw⟩
         replace hw:=hw.symm
         subst hw
         go_wp2
         go_roundw
         case rel=>exact ⟨i + 1,by omega,by go_num,by rw [M1.out];exact HO.out,HBx.out⟩
         case measure=>simp [intOf];omega
        ·have M1:Hid (pickK r.pick days (i + 1)=xs++[x]):=Lib.hid (by rw [NX.out];rfl)
         go_wp2_with fail
         refine K1.out.mono ?_
         rintro e w2 ⟨rfl,hw⟩
         replace hw:=hw.symm
         subst hw
         go_wp2_with fail
         refine K2.out.mono ?_
         rintro e w2 ⟨rfl,hw⟩
         replace hw:=hw.symm
         subst hw
         go_wp2_with (at_builtin;refine wpList_append_own _ rfl _ _ 26 rfl wr.heap.size 3 i0 (.int .i64 0) 1 8 Tryz.underlying26 hi hz0 hz1 hz2 rfl (by decide) _ _ _ rfl (HO.out.alloc _) ⟨wx.heap.size,0,none⟩ 1 1 [.int .i64 x] rfl rfl ?d1 ?d2 ?d3 ?d4 ?d5 ?_)
         case d1=>
          intro j u hj
          match j,hj with
          | 0,hj=>simp at hj;subst hj;simp [Addr.add]
         case d2=>intro u hu;simp at hu;subst hu;rfl
         case d3=>unfold maxLen;omega
         case d4=>omega
         case d5=>simp;omega
         intro v' w3 hown' hgrow _
         have Q2:=Lib.hid (ow_grow HBx.out.size HBx.out (Below.refl _ _) HO.out hgrow)
         have Q1:=Lib.hid hown'
         rw [← nums_snoc] at Q1
         clear hown' hgrow HO k1 x7 rl
         go_wp2
         go_roundw
         case rel=>exact ⟨i + 1,by omega,by go_num,by rw [M1.out,List.length_append];exact Q1.out,Q2.out⟩
         case measure=>simp [intOf];omega
       ·have M1:Hid (pickK r.pick days (i + 1)=xs++[x]):=Lib.hid (by rw [NX.out];rfl)
        go_wp2_with fail
        refine K1.out.mono ?_
        rintro e w2 ⟨rfl,hw⟩
        replace hw:=hw.symm
        subst hw
        go_wp2_with fail
        refine K2.out.mono ?_
        rintro e w2 ⟨rfl,hw⟩
        replace hw:=hw.symm
        subst hw
        go_wp2_with (at_builtin;refine wpList_append_own _ rfl _ _ 26 rfl wr.heap.size 3 i0 (.int .i64 0) 1 8 Tryz.underlying26 hi hz0 hz1 hz2 rfl (by decide) _ _ _ rfl (HO.out.alloc _) ⟨wx.heap.size,0,none⟩ 1 1 [.int .i64 x] rfl rfl ?d1 ?d2 ?d3 ?d4 ?d5 ?_)
        case d1=>
         intro j u hj
         match j,hj with
         | 0,hj=>simp at hj;subst hj;simp [Addr.add]
        case d2=>intro u hu;simp at hu;subst hu;rfl
        case d3=>unfold maxLen;omega
        case d4=>omega
        case d5=>simp;omega
        intro v' w3 hown' hgrow _
        have Q2:=Lib.hid (ow_grow HBx.out.size HBx.out (Below.refl _ _) HO.out hgrow)
        have Q1:=Lib.hid hown'
        rw [← nums_snoc] at Q1
        clear hown' hgrow HO k1 x7 rl
        go_wp2
        go_roundw
        case rel=>exact ⟨i + 1,by omega,by go_num,by rw [M1.out,List.length_append];exact Q1.out,Q2.out⟩
        case measure=>simp [intOf];omega
      ·obtain rfl:i=days.length:=by omega
       have RR:=Lib.hid (ow_ints HO.out)
       have RF:=Lib.hid (show Fr w.heap.size _ from fun g hg=>Nat.le_trans HBw.out.size (HO.out.lt g hg).1)
       rw [← EP.out] at RR
       have BX:=Lib.hid (HBw.out.trans (hB.mono HBw.out.size))
       clear hlt hi' hB HO PK
       go_wp2
       go_ret2
       exact ⟨BX.out,Or.inr ⟨_,_,N1.out,rfl,RR.out,RF.out⟩⟩
   ·have EP:Hid (perD r s a b=allD r s a b):=Lib.hid (by unfold perD pick;rw [if_pos (by have:=beq_iff_eq.1 hp0;omega)])
    rcases (by omega:m<b + 1∨(b + 1≤m∧109573<b + 1)) with g | ⟨g,g'⟩
    all_goals
     go_wp2
     go_ret2
     exact ⟨HBw.out,Or.inr ⟨_,_,N1.out,rfl,by rw [EP.out];exact IL.out,FL.out⟩⟩
end Go.Proofs.YtoncfgfjdlgfcaaGreatDoor
namespace Go.Proofs.YtoncfgfjdlgfcaaGreatDoor
open Go.RowKit Cal Txt
theorem cell_block {W W':World} {b:Nat} (h:W'.heap[b]?=W.heap[b]?) (o:Nat):W'.cell? ⟨b,o,none⟩=W.cell? ⟨b,o,none⟩:=by simp [World.cell?,h]
def Gro (w3:World) (o3:Option Nat) (wx:World) (ov:Value):Prop:=w3.grownBy wx o3∧∀ g,ov.ownBlock=some g→o3=some g∨w3.heap.size≤g
theorem Gro.start (w3:World) (v:Value):Gro w3 v.ownBlock w3 v:=⟨⟨rfl,rfl,rfl,Nat.le_refl _,fun _ _ _=>rfl⟩,fun _ h=>Or.inl h⟩
theorem Gro.step {w3 wx w':World} {o3:Option Nat} {ov v':Value} {o:Obj} (h:Gro w3 o3 wx ov) (hg:(wx.alloc o).grownBy w' ov.ownBlock) (hat:v'.ownBlock=ov.ownBlock∨v'.ownBlock=some (wx.heap.size + 1)):Gro w3 o3 w' v':=by
 obtain ⟨h1,h2⟩:=h
 have sx:wx.heap.size<(wx.alloc o).heap.size:=by simp
 have s3:=h1.size
 have s4:=hg.size
 refine ⟨⟨hg.os.trans h1.os,hg.tape.trans h1.tape,hg.output.trans h1.output,by omega,fun k hk hne=>?_⟩,fun g hgg=>?_⟩
 ·rw [hg.block k (by omega) (fun e=>by
   rcases h2 k e.symm with q | q
   ·exact hne q.symm
   ·omega)]
  have e1:(wx.alloc o).heap[k]?=wx.heap[k]?:=((Below.refl wx.heap.size wx).alloc (Nat.le_refl _) o).block k (by omega)
  rw [e1,h1.block k hk hne]
 ·rcases hat with q | q
  ·exact h2 g (q ▸ hgg)
  ·rw [q] at hgg
   have:wx.heap.size + 1=g:=by simpa using hgg
   exact Or.inr (by omega)
theorem tl_low {r:Rl} {t:Int} (h:¬ r.till=0∧r.till<t):tl r t=r.till:=by unfold tl;rw [if_neg h.1];omega
theorem tl_high {r:Rl} {t:Int} (h:¬ (¬ r.till=0∧r.till<t)):tl r t=t:=by unfold tl;split <;> omega
theorem mst_low {r:Rl} {m:Int} (h:¬ r.count=0∧r.count<m):mst r m=r.count:=if_pos h
theorem mst_high {r:Rl} {m:Int} (h:¬ (¬ r.count=0∧r.count<m)):mst r m=m:=if_neg h
set_option maxRecDepth 100000 in
set_option maxHeartbeats 8000000 in
theorem refSeq_far (r:Rl) (v:Value) (s t m:Int) (w:World) (hv:RuleIn w v r) (hz:rf r=0) (s1:1≤s) (s2:s≤109573) (ht:t≤1000000000000000000) (hm:m≤200000) :
 Calls Tryz.prog 102 #[v,.int .i64 s,.int .i64 t,.int .i64 m] w fun e w'=>∃ v',e=.returned v'∧Ints w' v' (dsq r s t m)∧Below w.heap.size w w':=by
 obtain ⟨i0,hi,hz0,hz1,hz2⟩:=info_parts info_per_int
 have KB:=Lib.hid (fun k W (q:Below w.heap.size w W)=>refBegin_any r v s k W (hv.on q) hz s1 s2)
 have KP:=Lib.hid (fun k W (q:Below w.heap.size w W)=>refPeriod_any r v s k W (hv.on q) hz s1 s2)
 obtain ⟨⟨c0,c1⟩,u0,u1⟩:=rf_more hz
 obtain ⟨am,ad,aw,ap,cm,cd,cw,cp,rfl⟩:=rule_form hv
 have B0:=(Below.refl w.heap.size w).alloc (Nat.le_refl _) (.cells #[.int .i64 r.freq,.int .i64 r.every,.int .i64 r.count,.int .i64 r.till,.slice am r.months.length cm,.slice ad r.days.length cd,.slice aw r.weeks.length cw,.slice ap r.pick.length cp] 29)
 have HR:=Lib.hid (RBox.new w r.freq r.every r.count r.till (.slice am r.months.length cm) (.slice ad r.days.length cd) (.slice aw r.weeks.length cw) (.slice ap r.pick.length cp) 29)
 have HB:=Lib.hid B0
 have sz0:w.heap.size<(w.alloc (.cells #[.int .i64 r.freq,.int .i64 r.every,.int .i64 r.count,.int .i64 r.till,.slice am r.months.length cm,.slice ad r.days.length cd,.slice aw r.weeks.length cw,.slice ap r.pick.length cp] 29)).heap.size:=by simp
 clear B0 hv hz
 obtain ⟨T,hT⟩:∃ T,T=tl r t:=⟨_,rfl⟩
 obtain ⟨M,hM⟩:∃ M,M=mst r m:=⟨_,rfl⟩
 have FE:Hid (dsq r s t m=if T<s∨M<1 then [] else (s :: fil s T (flat r s T 0)).take M.toNat):=Lib.hid (by rw [hT,hM];rfl)
 have TB:T≤1000000000000000000:=by rw [hT];unfold tl;split <;> omega
 have MB:M≤200000:=by rw [hM];unfold mst;split <;> omega
 have HT:=Lib.hid hT
 have HM:=Lib.hid hM
 clear hT hM
 go_enter Tryz.func102,Tryz.ntmps102
 go_upto_region 2 with fail
 generalize w.alloc (.cells #[.int .i64 r.freq,.int .i64 r.every,.int .i64 r.count,.int .i64 r.till,.slice am r.months.length cm,.slice ad r.days.length cd,.slice aw r.weeks.length cw,.slice ap r.pick.length cp] 29)=W0 at HB HR sz0 ⊢
 go_cut [25] from 17 to 111 (fun sc wx=>sc=.bool (decide (¬ r.till=0∧r.till<t))∧wx=W0)
 case first=>
  obtain ⟨q0,q1,q2,q3,q4,q5,q6,q7⟩:=HR.out
  obtain ⟨x,hx⟩:∃ x,x=r.till:=⟨_,rfl⟩
  have HX:=Lib.hid hx
  rw [← hx] at q3
  clear hx
  rcases h0:(x != 0) with _ | _
  rotate_left
  ·have h0':¬ x=0:=by simpa using h0
   by_cases h1:x<t
   ·have E:Hid (decide (¬ r.till=0∧r.till<t)=true):=Lib.hid (by rw [← HX.out];exact decide_eq_true ⟨h0',h1⟩)
    clear h0'
    go_wp2
    go_meet
    case rel=>exact ⟨by rw [E.out],rfl⟩
   ·have E:Hid (decide (¬ r.till=0∧r.till<t)=false):=Lib.hid (by rw [← HX.out];exact decide_eq_false (fun k=>h1 k.2))
    clear h0'
    go_wp2
    go_meet
    case rel=>exact ⟨by rw [E.out],rfl⟩
  ·have E:Hid (decide (¬ r.till=0∧r.till<t)=false):=Lib.hid (by rw [← HX.out];exact decide_eq_false (fun k=>k.1 (by simpa using h0)))
   go_wp2
   go_meet
   case rel=>exact ⟨by rw [E.out],rfl⟩
 case rest=>
 obtain ⟨rfl,hw⟩:=hcut
 replace hw:=hw.symm
 subst hw
 go_upto_if 25 with fail
 go_cut [2] from 17 to 111 (fun sc wx=>sc=.int .i64 T∧wx=W0)
 case first=>
  obtain ⟨q0,q1,q2,q3,q4,q5,q6,q7⟩:=HR.out
  obtain ⟨x,hx⟩:∃ x,x=r.till:=⟨_,rfl⟩
  have HX:=Lib.hid hx
  rw [← hx] at q3
  clear hx
  rcases hd:decide (¬ r.till=0∧r.till<t) with _ | _
  ·have E:Hid (t=T):=Lib.hid (by rw [HT.out,tl_high (of_decide_eq_false hd)])
   clear hd
   go_wp2
   go_meet
   case rel=>exact ⟨by rw [E.out],rfl⟩
  ·have E:Hid (x=T):=Lib.hid (by rw [HT.out,tl_low (of_decide_eq_true hd)];exact HX.out)
   clear hd
   go_wp2
   go_meet
   case rel=>exact ⟨by rw [E.out],rfl⟩
 case rest=>
 obtain ⟨rfl,hw⟩:=hcut
 replace hw:=hw.symm
 subst hw
 go_upto_region 4 with fail
 go_cut [36] from 17 to 111 (fun sc wx=>sc=.bool (decide (¬ r.count=0∧r.count<m))∧wx=W0)
 case first=>
  obtain ⟨q0,q1,q2,q3,q4,q5,q6,q7⟩:=HR.out
  obtain ⟨x,hx⟩:∃ x,x=r.count:=⟨_,rfl⟩
  have HX:=Lib.hid hx
  rw [← hx] at q2
  clear hx
  rcases h0:(x != 0) with _ | _
  rotate_left
  ·have h0':¬ x=0:=by simpa using h0
   by_cases h1:x<m
   ·have E:Hid (decide (¬ r.count=0∧r.count<m)=true):=Lib.hid (by rw [← HX.out];exact decide_eq_true ⟨h0',h1⟩)
    clear h0'
    go_wp2
    go_meet
    case rel=>exact ⟨by rw [E.out],rfl⟩
   ·have E:Hid (decide (¬ r.count=0∧r.count<m)=false):=Lib.hid (by rw [← HX.out];exact decide_eq_false (fun k=>h1 k.2))
    clear h0'
    go_wp2
    go_meet
    case rel=>exact ⟨by rw [E.out],rfl⟩
  ·have E:Hid (decide (¬ r.count=0∧r.count<m)=false):=Lib.hid (by rw [← HX.out];exact decide_eq_false (fun k=>k.1 (by simpa using h0)))
   go_wp2
   go_meet
   case rel=>exact ⟨by rw [E.out],rfl⟩
 case rest=>
 obtain ⟨rfl,hw⟩:=hcut
 replace hw:=hw.symm
 subst hw
 go_upto_if 36 with fail
 go_cut [3] from 17 to 111 (fun sc wx=>sc=.int .i64 M∧wx=W0)
 case first=>
  obtain ⟨q0,q1,q2,q3,q4,q5,q6,q7⟩:=HR.out
  obtain ⟨x,hx⟩:∃ x,x=r.count:=⟨_,rfl⟩
  have HX:=Lib.hid hx
  rw [← hx] at q2
  clear hx
  rcases hd:decide (¬ r.count=0∧r.count<m) with _ | _
  ·have E:Hid (m=M):=Lib.hid (by rw [HM.out,mst_high (of_decide_eq_false hd)])
   clear hd
   go_wp2
   go_meet
   case rel=>exact ⟨by rw [E.out],rfl⟩
  ·have E:Hid (x=M):=Lib.hid (by rw [HM.out,mst_low (of_decide_eq_true hd)];exact HX.out)
   clear hd
   go_wp2
   go_meet
   case rel=>exact ⟨by rw [E.out],rfl⟩
 case rest=>
 obtain ⟨rfl,hw⟩:=hcut
 replace hw:=hw.symm
 subst hw
 clear HT HM
 by_cases g1:T<s
 ·have E:Hid (dsq r s t m=[]):=Lib.hid (FE.out.trans (if_pos (Or.inl g1)))
  go_wp2
  go_ret
  exact ⟨_,rfl,by rw [E.out];exact ⟨none,0,rfl,Or.inl rfl⟩,HB.out⟩
 by_cases g2:M<1
 ·have E:Hid (dsq r s t m=[]):=Lib.hid (FE.out.trans (if_pos (Or.inr g2)))
  go_wp2
  go_ret
  exact ⟨_,rfl,by rw [E.out];exact ⟨none,0,rfl,Or.inl rfl⟩,HB.out⟩
 obtain ⟨FIN,hFIN⟩:∃ FIN,FIN=(s :: fil s T (flat r s T 0)).take M.toNat:=⟨_,rfl⟩
 have EF:Hid (dsq r s t m=FIN):=Lib.hid (by rw [FE.out,if_neg (by omega),hFIN])
 have I0:Hid (Inv FIN [s] (fil s T (flat r s T (((0:Nat):Int)))) M.toNat):=Lib.hid (by rw [hFIN];exact Inv.start s _ (by omega))
 have ow0:Hid (W0.ownsRow W0.heap.size 3 1 (.slice none 0 0) 0 []):=Lib.hid (World.ownsRow_nil _ _ _ _)
 clear FE hFIN
 go_wp2_with (at_builtin;refine wpList_append_own _ rfl _ _ 26 rfl W0.heap.size 3 i0 (.int .i64 0) 1 8 Tryz.underlying26 hi hz0 hz1 hz2 rfl (by decide) _ _ _ rfl (ow0.out.alloc _) ⟨W0.heap.size,0,none⟩ 1 1 [.int .i64 s] rfl rfl ?c1 ?c2 ?c3 ?c4 ?c5 ?_)
 case c2=>first | rfl | (intro u hu;simp at hu;subst hu;rfl)
 case c3=>unfold maxLen;omega
 intro v1 w1 hown hgrow _
 have O1:=Lib.hid hown
 have B1:=Lib.hid (ow_grow (Nat.le_refl _) (Below.refl _ _) (Below.refl _ _) ow0.out hgrow)
 clear hown hgrow ow0
 go_wp2_with fail
 go_loopw [9,10] (fun ov kv wr=>∃ (k:Nat) (out:List Int),k≤109574∧kv=.int .i64 k∧wr.ownsRow W0.heap.size 3 1 ov out.length (nums out)∧Inv FIN out (fil s T (flat r s T k)) M.toNat∧Below W0.heap.size W0 wr) (fun _ kv _=>109575 - (intOf kv).toNat)
 case atStart=>exact ⟨0,[s],Nat.zero_le _,rfl,O1.out,I0.out,B1.out⟩
 case round=>
  obtain ⟨k,out,hk,rfl,hown,hI,hB⟩:=hrel
  obtain ⟨wa,hwa⟩:=wname hB
  subst hwa
  have HO:=Lib.hid hown
  have HI:=Lib.hid hI
  have Bw:=Lib.hid (HB.out.trans (hB.mono HB.out.size))
  have HBa:=Lib.hid hB
  have Rw:RBox wa w.heap.size r.freq r.every r.count r.till (.slice am r.months.length cm) (.slice ad r.days.length cd) (.slice aw r.weeks.length cw) (.slice ap r.pick.length cp):=HR.out.on hB
  have rl:=Rw.lt
  have HRa:=Lib.hid Rw
  obtain ⟨x0,x1,x2,x3,x4,x5,x6,x7⟩:=Rw
  have LO:out.length≤M.toNat:=hI.2
  clear hown hI hB
  by_cases hl:(out.length:Int)<M
  case neg=>
   have E1:=Lib.hid (EF.out.trans (HI.out.full (by omega)).symm)
   have RR:=Lib.hid (ow_ints HO.out)
   obtain ⟨oa,oc,eo,_⟩:=id RR.out
   subst eo
   clear x0 x1 x2 x3 x4 x5 x6 x7 rl
   go_wp2
   go_ret
   exact ⟨_,rfl,by rw [E1.out];exact RR.out,Bw.out⟩
  have KBk:=Lib.hid (KB.out k wa Bw.out)
  have KPk:=Lib.hid (fun W (q:Below wa.heap.size wa W)=>KP.out k W (Bw.out.trans (q.mono Bw.out.size)))
  have RR:=Lib.hid (ow_ints HO.out)
  obtain ⟨oa,oc,eo,_⟩:=id RR.out
  subst eo
  go_wp2_with fail
  clear x0 x1 x2 x3 x4 x5 x6 x7 rl
  refine KBk.out.mono ?_
  rintro e w2 ⟨⟨a,bm,bo,rfl,hbg⟩,hb⟩
  have RR2:=Lib.hid (RR.out.on hb)
  have O2:=Lib.hid (ow_below HO.out hb)
  have B2:=Lib.hid (HBa.out.trans (hb.mono HBa.out.size))
  have Bw2:=Lib.hid (Bw.out.trans (hb.mono Bw.out.size))
  have KP2:=Lib.hid (KPk.out _ hb)
  have R2:=HRa.out.on hb
  clear hb KBk KPk HRa HO HBa RR
  rcases hbg with ⟨ho,rfl⟩ | ⟨rfl,ho⟩
  ·have E1:=Lib.hid (EF.out.trans ((HI.out.same (by rw [flat_none ho];rfl)).none).symm)
   clear ho R2
   go_wp2
   go_ret
   exact ⟨_,rfl,by rw [E1.out];exact RR2.out,Bw2.out⟩
  by_cases hfar:T<a
  ·have E1:=Lib.hid (EF.out.trans ((HI.out.same (by rw [flat_far ho hfar];rfl)).none).symm)
   clear ho R2
   go_wp2
   go_ret
   exact ⟨_,rfl,by rw [E1.out];exact RR2.out,Bw2.out⟩
  have PD:Hid (pD r s k=some (perD r s a (min bm 109573))):=Lib.hid (by unfold pD;rw [ho])
  have k2:k + 1≤109574:=by have:=(pE_some ho).2.1;omega
  obtain ⟨days,hdays⟩:∃ days,days=perD r s a (min bm 109573):=⟨_,rfl⟩
  have I2:Hid (Inv FIN out (fil s T (days.drop 0)++fil s T (flat r s T ((k + 1:Nat):Int))) M.toNat):=Lib.hid (HI.out.same (by rw [flat_on ho (by omega),fil_app,hdays];rfl))
  have DL:days.length≤401:=by rw [hdays];exact (perD_len (pE_len ho)).1
  rw [← hdays] at PD
  rw [PD.out] at KP2
  have rl:=R2.lt
  obtain ⟨x0,x1,x2,x3,x4,x5,x6,x7⟩:=R2
  clear ho hdays HI
  go_wp2_with fail
  clear x0 x1 x2 x3 x4 x5 x6 x7 rl
  refine KP2.out.mono ?_
  rintro e w3 ⟨hb,⟨ho,_⟩ | ⟨dl,dv,ed,rfl,hx,hfr⟩⟩
  ·cases ho
  obtain rfl:days=dl:=by simpa using ed
  have O3:=ow_below O2.out hb
  have B3:=Lib.hid (B2.out.trans (hb.mono B2.out.size))
  have sz3:w2.heap.size≤w3.heap.size:=hb.size
  obtain ⟨da,dc,eD,_⟩:=id hx
  subst eD
  have HD:=Lib.hid hx
  have FD:=Lib.hid hfr
  have OLT:Hid (∀ g,(Value.slice oa out.length oc).ownBlock=some g→g<w2.heap.size∧W0.heap.size≤g):=Lib.hid (fun g hg=>⟨(O2.out.lt g hg).2,(O2.out.lt g hg).1⟩)
  have HO3:=Lib.hid O3
  have GS:=Lib.hid (Gro.start w3 (.slice oa out.length oc))
  clear hb KP2 ed hx hfr O3 O2 B2 RR2
  go_wp2_with fail
  go_loopw [9,16] (fun ov iv wr=>∃ (i:Nat) (ou:List Int),i≤days.length∧iv=.int .i64 i∧wr.ownsRow W0.heap.size 3 1 ov ou.length (nums ou)∧Inv FIN ou (fil s T (days.drop i)++fil s T (flat r s T ((k + 1:Nat):Int))) M.toNat∧Gro w3 (Value.slice oa out.length oc).ownBlock wr ov) (fun _ iv _=>days.length - (intOf iv).toNat)
  case atStart=>exact ⟨0,out,Nat.zero_le _,rfl,HO3.out,I2.out,GS.out⟩
  case round=>
   obtain ⟨i,ou,hi',rfl,hown,hI,hG⟩:=hrel
   have hBx:Below W0.heap.size W0 _:=B3.out.grown hG.1 (by have:=B3.out.size;omega) (fun g hg=>(OLT.out g hg).2)
   obtain ⟨wx,hwx⟩:=wname hBx
   subst hwx
   have HBx:=Lib.hid hBx
   have HO:=Lib.hid hown
   have HI:=Lib.hid hI
   have HG:=Lib.hid hG
   have LO:ou.length≤M.toNat:=hI.2
   have szx:W0.heap.size≤wx.heap.size:=hBx.size
   have RR:=Lib.hid (ow_ints HO.out)
   obtain ⟨oa2,oc2,eo2,_⟩:=id RR.out
   subst eo2
   clear hown hI hG hBx
   by_cases hlt:i<days.length
   ·obtain ⟨da',dc',e',hc⟩:=id HD.out
    obtain ⟨rfl,rfl⟩:da=da'∧dc=dc':=by simpa using e'
    rcases hc with hc | ⟨lb,lo,rfl,hc⟩
    ·rw [hc] at hlt;simp at hlt
    have k1':=hc i hlt
    have blt:lb<w3.heap.size:=cell_in k1'
    have bne:some lb≠(Value.slice oa out.length oc).ownBlock:=fun q=>by
     have h1:=(OLT.out lb q.symm).1
     have h2:=FD.out lb rfl
     omega
    have k1:=(cell_block (HG.out.1.block lb blt bne) (lo + i)).trans k1'
    obtain ⟨x,hx⟩:∃ x,x=days.getD i 0:=⟨_,rfl⟩
    rw [← hx] at k1
    have DR:=Lib.hid (drop_at hlt)
    rw [← hx] at DR
    clear hc e' hx k1' blt bne
    by_cases p1:s<x
    ·by_cases p2:x≤T
     ·by_cases p3:(ou.length:Int)<M
      ·have I3:=Lib.hid ((HI.out.same (by rw [DR.out,fil_yes ⟨p1,p2⟩,List.cons_append])).more (by omega))
       go_wp2_with (at_builtin;refine wpList_append_own_at _ rfl _ _ 26 rfl W0.heap.size 3 i0 (.int .i64 0) 1 8 Tryz.underlying26 hi hz0 hz1 hz2 rfl (by decide) _ _ _ rfl (HO.out.alloc _) ⟨wx.heap.size,0,none⟩ 1 1 [.int .i64 x] rfl rfl ?d1 ?d2 ?d3 ?d4 ?d5 ?_)
       case d1=>
        intro j u hj
        match j,hj with
        | 0,hj=>simp at hj;subst hj;simp [Addr.add]
       case d2=>intro u hu;simp at hu;subst hu;rfl
       case d3=>unfold maxLen;omega
       case d4=>omega
       case d5=>simp;omega
       intro v' w5 hown' hgrow _ hat
       have Q1:=Lib.hid hown'
       have Q2:=Lib.hid (HG.out.step hgrow hat)
       rw [← nums_snoc] at Q1
       clear hown' hgrow hat HO k1
       go_wp2
       go_roundw
       case rel=>exact ⟨i + 1,ou++[x],by omega,by go_num,by rw [List.length_append];exact Q1.out,I3.out,Q2.out⟩
       case measure=>simp [intOf];omega
      ·have I3:=Lib.hid (HI.out.skip (by omega) (fil s T (days.drop (i + 1))++fil s T (flat r s T ((k + 1:Nat):Int))))
       go_wp2
       go_roundw
       case rel=>exact ⟨i + 1,ou,by omega,by go_num,HO.out,I3.out,HG.out⟩
       case measure=>simp [intOf];omega
     ·have I3:=Lib.hid (HI.out.same (by rw [DR.out,fil_no (fun q=>p2 q.2)]))
      go_wp2
      go_roundw
      case rel=>exact ⟨i + 1,ou,by omega,by go_num,HO.out,I3.out,HG.out⟩
      case measure=>simp [intOf];omega
    ·have I3:=Lib.hid (HI.out.same (by rw [DR.out,fil_no (fun q=>p1 q.1)]))
     go_wp2
     go_roundw
     case rel=>exact ⟨i + 1,ou,by omega,by go_num,HO.out,I3.out,HG.out⟩
     case measure=>simp [intOf];omega
   ·have I3:=Lib.hid (HI.out.same (rest':=fil s T (flat r s T ((k + 1:Nat):Int))) (by rw [List.drop_eq_nil_of_le (by omega)];exact List.nil_append _))
    go_wp2
    go_roundw
    case rel=>exact ⟨k + 1,ou,k2,by go_num,HO.out,I3.out,HBx.out⟩
    case measure=>simp [intOf];omega
end Go.Proofs.YtoncfgfjdlgfcaaGreatDoor
