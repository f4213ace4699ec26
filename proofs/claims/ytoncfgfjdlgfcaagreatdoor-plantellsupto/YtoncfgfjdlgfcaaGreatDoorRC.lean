/-
  Texts of our own that serve the card of this claim, joined into one.
-/
import Derived.Test.YtoncfgfjdlgfcaaGreatDoorRG
import Derived.Test.YtoncfgfjdlgfcaaGreatDoorRefRuleF
import Derived.Test.YtoncfgfjdlgfcaaGreatDoorRefRuleT
import Derived.Test.YtoncfgfjdlgfcaaGreatDoorBX
import Derived.Test.YtoncfgfjdlgfcaaGreatDoorBW
import Derived.Deep.Cut
import Derived.Deep.CutRange
import Derived.Test.YtoncfgfjdlgfcaaGreatDoorRD
import Derived.Test.YtoncfgfjdlgfcaaGreatDoorDA
namespace Go.Proofs.YtoncfgfjdlgfcaaGreatDoor
open Go.RowKit Cal Txt
theorem ret_rule {a b:Int} (h:a=b):Ending.returned (.int .i64 a)=.returned (.int .i64 b):=by rw [h]
theorem refRule_any (r:Rl) (vm vd vw vp:Value) (w:World) (hm:Ints w vm r.months) (hd:Ints w vd r.days) (hw:Nths w vw r.weeks) (hp:Ints w vp r.pick) :
 Calls Tryz.prog 51 #[.agg #[.int .i64 r.freq,.int .i64 r.every,.int .i64 r.count,.int .i64 r.till,vm,vd,vw,vp]] w fun e w'=>e=.returned (.int .i64 (rf r))∧Below w.heap.size w w':=by
 by_cases h1:(1≤r.freq∧r.freq≤4)∧(1≤r.every∧r.every≤50)∧(0≤r.count∧r.count≤200)∧(0≤r.till∧r.till≤109573)
 case neg=>
  have o:ok1 r=false:=decide_eq_false h1
  have e:rf r=1:=by unfold rf;rw [if_pos o]
  obtain ⟨am,cm,rfl,_⟩:=hm
  obtain ⟨ad,cd,rfl,_⟩:=hd
  obtain ⟨aw,cw,rfl,_⟩:=hw
  obtain ⟨ap,cp,rfl,_⟩:=hp
  exact (refRule_1 _ _ _ _ am ad aw ap _ _ _ _ cm cd cw cp w h1).mono fun _ _ ⟨he,hb⟩=>⟨he.trans (ret_rule e.symm),hb⟩
 have o1:ok1 r=true:=decide_eq_true h1
 obtain ⟨⟨a1,a2⟩,⟨a3,a4⟩,⟨a5,a6⟩,a7,a8⟩:=id h1
 by_cases h2:¬ r.count=0∧¬ r.till=0
 case pos=>
  have e:rf r=3:=by unfold rf;rw [if_neg (by rw [o1];decide),if_pos h2]
  obtain ⟨am,cm,rfl,_⟩:=hm
  obtain ⟨ad,cd,rfl,_⟩:=hd
  obtain ⟨aw,cw,rfl,_⟩:=hw
  obtain ⟨ap,cp,rfl,_⟩:=hp
  exact (refRule_3 _ _ _ _ am ad aw ap _ _ _ _ cm cd cw cp w a1 a2 a3 a4 a5 a6 a7 a8 h2.1 h2.2).mono fun _ _ ⟨he,hb⟩=>⟨he.trans (ret_rule e.symm),hb⟩
 by_cases h3:r.months.length≤12∧r.days.length≤31∧r.weeks.length≤20∧r.pick.length≤20
 case neg=>
  have o2:ok2 r=false:=decide_eq_false h3
  have e:rf r=4:=by unfold rf;rw [if_neg (by rw [o1];decide),if_neg h2,if_pos o2]
  obtain ⟨am,cm,rfl,_⟩:=hm
  obtain ⟨ad,cd,rfl,_⟩:=hd
  obtain ⟨aw,cw,rfl,_⟩:=hw
  obtain ⟨ap,cp,rfl,_⟩:=hp
  exact (refRule_4 _ _ _ _ am ad aw ap _ _ _ _ cm cd cw cp w a1 a2 a3 a4 a5 a6 a7 a8 h2 h3).mono fun _ _ ⟨he,hb⟩=>⟨he.trans (ret_rule e.symm),hb⟩
 have o2:ok2 r=true:=decide_eq_true h3
 have e:rf r=rf5 r:=by unfold rf rf5;rw [if_neg (by rw [o1];decide),if_neg h2,if_neg (by rw [o2];decide)]
 rw [e]
 rcases hn:anyN r.weeks with _ | _
 ·exact refRule_5F r vm vd vw vp w hm hd hw hp a1 a2 a3 a4 a5 a6 a7 a8 (not_both h2) (by omega) (by omega) (by omega) (by omega) hn
 ·exact refRule_5T r vm vd vw vp w hm hd hw hp a1 a2 a3 a4 a5 a6 a7 a8 (not_both h2) (by omega) (by omega) (by omega) (by omega) hn
end Go.Proofs.YtoncfgfjdlgfcaaGreatDoor
namespace Go.Proofs.YtoncfgfjdlgfcaaGreatDoor
open Go.RowKit Cal Txt
theorem txB_long {s:ByteArray} (h:60<s.size):txB s=false:=by
 unfold txB;rw [decide_eq_false (by omega)];rfl
theorem txB_all {s:ByteArray} (h:s.size≤60):txB s=s.data.toList.all sgnB:=by
 unfold txB;rw [decide_eq_true h];rfl
theorem ruF_yes {e:Evt} (h:e.rep=true):ruF e=rf e.rule:=if_pos h
theorem ruF_no {e:Evt} (h:e.rep=false):ruF e=if emB e.rule=true then 0 else 3:=if_neg (by rw [h];decide)
theorem emB_num {r:Rl} {a b c d:Nat} (ha:a=r.months.length) (hb:b=r.days.length) (hc:c=r.weeks.length) (hd:d=r.pick.length):emB r=decide ((r.freq=0∧r.every=0∧r.count=0∧r.till=0)∧a=0∧b=0∧c=0∧d=0):=by
 subst ha;subst hb;subst hc;subst hd;rfl
set_option maxRecDepth 100000 in
set_option maxHeartbeats 16000000 in
theorem refEvent_any (e:Evt) (s:Evs) (w:World) (hv:EvB w e s) (hs:e.rule.months.length + e.rule.days.length + e.rule.weeks.length + e.rule.pick.length≤9223372036854775807) :
 Calls Tryz.prog 20 #[.agg (ecells e s)] w fun x w'=>x=.returned (.int .i64 (evF e))∧Below w.heap.size w w':=by
 obtain ⟨i0,hi,hz0,hz1,hz2⟩:=info_parts info_ev_int
 have H2:=Lib.hid (@evF_2 e)
 have H1:=Lib.hid (@evF_1 e)
 have HR:=Lib.hid (@evF_r e)
 have TL:=Lib.hid (@txB_long e.text)
 have TA:=Lib.hid (@txB_all e.text)
 have RY:=Lib.hid (@ruF_yes e)
 have RN:=Lib.hid (@ruF_no e)
 have LF4:=Lib.hid (@liF_full e)
 have LF1:=Lib.hid (@liF_one e)
 have LFR:=Lib.hid (@liF_rest e)
 have LAL:=Lib.hid (@liF_alm e)
 have CRI:=Lib.hid (criB_eq e.chg)
 generalize evF e=F at H2 H1 HR ⊢
 generalize ruF e=RF at HR RY RN
 generalize liF e=LF at HR LF4 LF1 LFR LAL
 generalize txB e.text=TX at H2 H1 HR TL TA
 have B0:=(Below.refl w.heap.size w).alloc (Nat.le_refl _) (.cells (ecells e s) 33)
 have R0:=EBox.new w e s 33
 have HV:=Lib.hid (fun W (q:Below w.heap.size w W)=>hv.on q)
 have HON:=Lib.hid (rcl_one hv)
 obtain ⟨W0,hW⟩:∃ W0,W0=w.alloc (.cells (ecells e s) 33):=⟨_,rfl⟩
 rw [← hW] at B0 R0
 have HW:=Lib.hid hW
 have HB:=Lib.hid B0
 have HE:=Lib.hid R0
 have HSZ:=Lib.hid hs
 have bx:w.heap.size<W0.heap.size:=R0.lt
 clear hv B0 R0 hW hs
 go_enter Tryz.func20,Tryz.ntmps20
 go_upto_region 1 with fail
 rw [← HW.out]
 clear HW
 -- the name
 have c0:=HE.out.1.1
 go_wp2_with fail
 clear c0
 refine (refName_any e.name _).mono ?_
 rintro x w1 ⟨rfl,hw⟩
 replace hw:=hw.symm
 subst hw
 rcases h1:nmB e.name with _ | _
 ·have N:Hid (F=2):=Lib.hid (H2.out (by rw [h1];rfl))
  clear H2 H1 HR TL TA RY RN LF4 LF1 LFR CRI HV
  go_wp2
  go_ret
  exact ⟨ret_int N.out.symm,HB.out⟩
 have c1:=HE.out.1.2.1
 by_cases h60:60<(e.text.size:Int)
 ·have N:Hid (F=2):=Lib.hid (H2.out (by rw [h1,TL.out (by omega)];rfl))
  clear H2 H1 HR TL TA RY RN LF4 LF1 LFR CRI HV
  go_wp2
  go_ret
  exact ⟨ret_int N.out.symm,HB.out⟩
 have ETX:=Lib.hid (TA.out (by omega))
 have HN2:=Lib.hid (fun (q:e.text.data.toList.all sgnB=false)=>H2.out (by rw [h1,ETX.out,q];rfl))
 have HN1:=Lib.hid (fun (q:e.text.data.toList.all sgnB=true)=>H1.out (by rw [h1,ETX.out,q];rfl))
 have HNR:=Lib.hid (fun (q:e.text.data.toList.all sgnB=true)=>HR.out (by rw [h1,ETX.out,q];rfl))
 clear H2 H1 HR TL TA ETX
 go_wp2_with fail
 go_loop [4] (fun i=>∃ k:Nat,k≤e.text.size∧i=.int .i64 k∧(e.text.data.toList.take k).all sgnB=true) (fun i=>e.text.size - (intOf i).toNat)
 case atStart=>exact ⟨0,Nat.zero_le _,rfl,rfl⟩
 case round=>
  obtain ⟨k,hk,rfl,hF⟩:=hrel
  have HF:=Lib.hid hF
  clear hF
  by_cases hlt:k<e.text.size
  ·clear HNR HN1 RY RN LF4 LF1 LFR CRI HV HE
   have LB:Hid (sgnB e.text[k]=decide (32≤e.text[k].toNat∧e.text[k].toNat≤126)):=Lib.hid rfl
   have AN:=Lib.hid (fun (q:sgnB e.text[k]=false)=>HN2.out (all_not sgnB e.text.data.toList k 0 (by rw [size_len];exact hlt) (by rw [byte_at e.text k hlt];exact q)))
   have AT:=Lib.hid (fun (q:sgnB e.text[k]=true)=>all_take sgnB e.text.data.toList k 0 (by rw [size_len];exact hlt) HF.out (by rw [byte_at e.text k hlt];exact q))
   by_cases c2:(e.text[k].toNat:Int)<32
   ·have N0:=Lib.hid (AN.out (by rw [LB.out];exact decide_eq_false (by omega)))
    clear AN AT LB
    go_wp2
    go_ret
    exact ⟨ret_int N0.out.symm,HB.out⟩
   by_cases c3:126<(e.text[k].toNat:Int)
   ·have N0:=Lib.hid (AN.out (by rw [LB.out];exact decide_eq_false (by omega)))
    clear AN AT LB
    go_wp2
    go_ret
    exact ⟨ret_int N0.out.symm,HB.out⟩
   have N1:=Lib.hid (AT.out (by rw [LB.out];exact decide_eq_true (by omega)))
   clear AN AT LB
   go_wp2
   go_round
   case rel=>exact ⟨k + 1,by omega,by go_num,N1.out⟩
   case measure=>simp [intOf];omega
  have TT:=all_end sgnB e.text.data.toList k (by rw [size_len];exact hlt) HF.out
  have G1:=Lib.hid (HN1.out TT)
  have GR:=Lib.hid (HNR.out TT)
  clear TT HN1 HN2 HNR HF
  have c2:=HE.out.1.2.2.1
  go_wp2_with fail
  clear c1 c2
  refine (refTime_any e.start _).mono ?_
  rintro x w1 ⟨rfl,hw⟩
  replace hw:=hw.symm
  subst hw
  rcases h3:ist e.start with _ | _
  ·have N:Hid (F=1):=Lib.hid (G1.out (by rw [h3];rfl))
   clear G1 GR RY RN LF4 LF1 LFR CRI HV
   go_wp2
   go_ret
   exact ⟨ret_int N.out.symm,HB.out⟩
  have c3:=HE.out.1.2.2.2.1
  by_cases h4:e.len<0
  ·have N:Hid (F=1):=Lib.hid (G1.out (by rw [h3,decide_eq_false (by omega)];rfl))
   clear G1 GR RY RN LF4 LF1 LFR CRI HV
   go_wp2
   go_ret
   exact ⟨ret_int N.out.symm,HB.out⟩
  by_cases h5:100000<e.len
  ·have N:Hid (F=1):=Lib.hid (G1.out (by rw [h3,decide_eq_false (by omega)];rfl))
   clear G1 GR RY RN LF4 LF1 LFR CRI HV
   go_wp2
   go_ret
   exact ⟨ret_int N.out.symm,HB.out⟩
  have GR2:=Lib.hid (GR.out (by rw [h3,decide_eq_true (by omega)];rfl))
  clear G1 GR h3
  go_upto_region 12 with fail
  clear c3 h4 h5
  go_upto_region 13 with (first | (refine ru_load ?h1 (.tmp 63) ?h2 w.heap.size 5 e s ?h3 HE.out.rrange ?h4;(case h1=>rfl);(case h2=>rfl);(case h3=>rfl)) | (refine ru_store ?i1 (.tmp 6) (.tmp 64) ?i2 ?i9 W0.heap.size _ _ ?i3 ?i7 e s ?i4 ?i5 ?i6 ?i8;(case i1=>rfl);(case i2=>rfl);(case i9=>rfl);(case i3=>rfl);(case i7=>rfl);(case i4=>exact HON.out);(case i5=>rfl);(case i6=>rfl);intro W1 r1 b1 l1;have Q1:=Lib.hid (And.intro r1 (And.intro b1 l1));clear r1 b1 l1))
  have B1:=Lib.hid (HB.out.trans (Q1.out.2.1.mono HB.out.size))
  have E1:=Lib.hid (HE.out.on Q1.out.2.1)
  have RC:=Lib.hid Q1.out.1
  have rb:=Q1.out.2.2
  clear HB HE Q1 bx HON
  generalize W0.heap.size=rB at RC rb ⊢
  obtain ⟨⟨am,cm,em,_⟩,⟨ad,cd,ed,_⟩,⟨aw,cw,ew,_⟩,⟨ap,cp,ep,_⟩,⟨ao,co,eo,_⟩,⟨an,cn,en,_⟩,⟨ac,cc,ec,_⟩,⟨aa,ca,ea,_⟩⟩:=HV.out _ B1.out
  obtain ⟨n1,hn1⟩:∃ n1,n1=e.rule.months.length:=⟨_,rfl⟩
  obtain ⟨n2,hn2⟩:∃ n2,n2=e.rule.days.length:=⟨_,rfl⟩
  obtain ⟨n3,hn3⟩:∃ n3,n3=e.rule.weeks.length:=⟨_,rfl⟩
  obtain ⟨n4,hn4⟩:∃ n4,n4=e.rule.pick.length:=⟨_,rfl⟩
  have EMN:=Lib.hid (emB_num hn1 hn2 hn3 hn4)
  have EO:=Lib.hid eo
  have EN:=Lib.hid en
  have EC:=Lib.hid ec
  have EA:=Lib.hid ea
  have hs:=HSZ.out
  rw [← hn1,← hn2,← hn3,← hn4] at hs
  rw [← hn1] at em
  rw [← hn2] at ed
  rw [← hn3] at ew
  rw [← hn4] at ep
  have HSL:=Lib.hid (And.intro em (And.intro ed (And.intro ew ep)))
  clear em ed ew ep eo en ec ea hn1 hn2 hn3 hn4 HSZ
  go_cut [105] from 18 to 214 (fun sc wx=>sc=.bool (!e.rep && !emB e.rule)∧wx=W1)
  case first=>
   as_aux_lemma=>
    have c4:W1.cell? ⟨w.heap.size,4,none⟩=some (.bool e.rep):=E1.out.1.2.2.2.2
    have wl:=E1.out.lt
    rcases hr:e.rep with _ | _
    ·rw [hr] at c4
     have k0:W1.cell? ⟨rB,0,none⟩=some (.int .i64 e.rule.freq):=RC.out 0 _ rfl
     have k1:W1.cell? ⟨rB,1,none⟩=some (.int .i64 e.rule.every):=RC.out 1 _ rfl
     have k2:W1.cell? ⟨rB,2,none⟩=some (.int .i64 e.rule.count):=RC.out 2 _ rfl
     have k3:W1.cell? ⟨rB,3,none⟩=some (.int .i64 e.rule.till):=RC.out 3 _ rfl
     have k4:W1.cell? ⟨rB,4,none⟩=some (.slice am n1 cm):=by rw [← HSL.out.1];exact RC.out 4 _ rfl
     have k5:W1.cell? ⟨rB,5,none⟩=some (.slice ad n2 cd):=by rw [← HSL.out.2.1];exact RC.out 5 _ rfl
     have k6:W1.cell? ⟨rB,6,none⟩=some (.slice aw n3 cw):=by rw [← HSL.out.2.2.1];exact RC.out 6 _ rfl
     have k7:W1.cell? ⟨rB,7,none⟩=some (.slice ap n4 cp):=by rw [← HSL.out.2.2.2];exact RC.out 7 _ rfl
     clear RY RN LF4 LF1 LFR LAL CRI GR2 HV E1 B1 RC HSL EO EN EC EA
     generalize e.rule.freq=q1 at k0 EMN
     generalize e.rule.every=q2 at k1 EMN
     generalize e.rule.count=q3 at k2 EMN
     generalize e.rule.till=q4 at k3 EMN
     rcases p0:(q1 != 0) with _ | _
     case true=>
      have EV:Hid (emB e.rule=false):=Lib.hid (by rw [EMN.out];exact decide_eq_false (by simp at p0;omega))
      go_wp2
      go_meet
      case rel=>exact ⟨by rw [hr,EV.out];rfl,rfl⟩
     rcases p1:(q2 != 0) with _ | _
     case true=>
      have EV:Hid (emB e.rule=false):=Lib.hid (by rw [EMN.out];exact decide_eq_false (by simp at p1;omega))
      go_wp2
      go_meet
      case rel=>exact ⟨by rw [hr,EV.out];rfl,rfl⟩
     rcases p2:(q3 != 0) with _ | _
     case true=>
      have EV:Hid (emB e.rule=false):=Lib.hid (by rw [EMN.out];exact decide_eq_false (by simp at p2;omega))
      go_wp2
      go_meet
      case rel=>exact ⟨by rw [hr,EV.out];rfl,rfl⟩
     rcases p3:(q4 != 0) with _ | _
     case true=>
      have EV:Hid (emB e.rule=false):=Lib.hid (by rw [EMN.out];exact decide_eq_false (by simp at p3;omega))
      go_wp2
      go_meet
      case rel=>exact ⟨by rw [hr,EV.out];rfl,rfl⟩
     by_cases p4:0<(n1:Int) + (n2:Int) + (n3:Int) + (n4:Int)
     ·have EV:Hid (emB e.rule=false):=Lib.hid (by rw [EMN.out];exact decide_eq_false (by omega))
      go_wp2
      go_meet
      case rel=>exact ⟨by rw [hr,EV.out];rfl,rfl⟩
     ·have EV:Hid (emB e.rule=true):=Lib.hid (by rw [EMN.out];exact decide_eq_true (by simp at p0 p1 p2 p3;omega))
      go_wp2
      go_meet
      case rel=>exact ⟨by rw [hr,EV.out];rfl,rfl⟩
    ·rw [hr] at c4
     clear RY RN LF4 LF1 LFR LAL CRI GR2 HV E1 B1 RC HSL EO EN EC EA
     go_wp2
     go_meet
     case rel=>exact ⟨by rw [hr];rfl,rfl⟩
  case rest=>
   obtain ⟨rfl,hw⟩:=hcut
   replace hw:=hw.symm
   subst hw
   rcases hX:(!e.rep && !emB e.rule) with _ | _
   case true=>
    have N:Hid (F=3):=Lib.hid (by
     rw [Bool.and_eq_true] at hX
     have r3:RF=3:=by rw [RN.out (by simpa using hX.1),if_neg (by have:=hX.2;simp at this;rw [this];decide)]
     rw [GR2.out,r3];rfl)
    clear GR2 RY RN LF4 LF1 LFR LAL CRI HV
    go_wp2
    go_ret
    exact ⟨ret_int N.out.symm,B1.out⟩
   have c4:W1.cell? ⟨w.heap.size,4,none⟩=some (.bool e.rep):=E1.out.1.2.2.2.2
   have wl:=E1.out.lt
   have HX:=Lib.hid hX
   clear hX
   go_upto_if 107 with fail
   clear c4 wl
   go_cut [7] from 18 to 214 (fun s7 wx=>RF=0∧Below w.heap.size w wx∧EBox wx w.heap.size e s)
   case first=>
    as_aux_lemma=>
     rcases hr:e.rep with _ | _
     ·have EV:Hid (RF=0):=Lib.hid (by
       rw [RN.out hr]
       have:=HX.out
       rw [hr] at this
       simp at this
       rw [if_pos this])
      clear RY RN LF4 LF1 LFR LAL CRI GR2 HV
      go_wp2
      go_meet
      case rel=>exact ⟨EV.out,B1.out,E1.out⟩
     ·obtain ⟨hm,hd,hw,hp,_⟩:=HV.out _ B1.out
      have K:=Lib.hid (refRule_any e.rule s.vm s.vd s.vw s.vp W1 hm hd hw hp)
      have EV:=Lib.hid (RY.out hr)
      clear RY RN LF4 LF1 LFR LAL CRI HV hm hd hw hp
      go_wp2_with (refine ru_load ?j1 (.tmp 6) ?j2 rB 0 e s ?j3 RC.out ?j4;(case j1=>rfl);(case j2=>rfl);(case j3=>rfl))
      refine K.out.mono ?_
      rintro x W2 ⟨rfl,hb⟩
      have B2:=Lib.hid (B1.out.trans (hb.mono B1.out.size))
      have E2:=Lib.hid (E1.out.on hb)
      clear hb K B1 E1 RC
      generalize rf e.rule=R at EV
      rcases hq:(R != 0) with _ | _
      ·have EZ:Hid (RF=0):=Lib.hid (by rw [EV.out];simpa using hq)
       clear GR2
       go_wp2
       go_meet
       case rel=>exact ⟨EZ.out,B2.out,E2.out⟩
      ·have N:Hid (F=R):=Lib.hid (by rw [GR2.out,if_pos (by rw [EV.out];simpa using hq),EV.out])
       clear GR2
       go_wp2
       go_ret
       exact ⟨ret_int N.out.symm,B2.out⟩
   case rest=>
    obtain ⟨hRF,hb,he⟩:=hcut
    obtain ⟨W2,hw2⟩:=wnm hb
    subst hw2
    have GL:Hid (F=if ¬ LF=0 then LF else amF e.alm):=Lib.hid (by rw [GR2.out,if_neg (fun q=>q hRF)])
    have B2:=Lib.hid hb
    have E2:=Lib.hid he
    clear hRF hb he GR2 RY RN B1 E1 RC HX EMN HSL rb hs
    have c13:W2.cell? ⟨w.heap.size,13,none⟩=some (.slice ao e.more.length co):=by rw [← EO.out];exact E2.out.2.2.1
    have c14:W2.cell? ⟨w.heap.size,14,none⟩=some (.slice an e.nots.length cn):=by rw [← EN.out];exact E2.out.2.2.2.1
    have c15:W2.cell? ⟨w.heap.size,15,none⟩=some (.slice ac e.chg.length cc):=by rw [← EC.out];exact E2.out.2.2.2.2.1
    have c16:W2.cell? ⟨w.heap.size,16,none⟩=some (.slice aa e.alm.length ca):=by rw [← EA.out];exact E2.out.2.2.2.2.2
    have wl:=E2.out.lt
    obtain ⟨m1,hm1⟩:∃ m1,m1=e.more.length:=⟨_,rfl⟩
    obtain ⟨m2,hm2⟩:∃ m2,m2=e.nots.length:=⟨_,rfl⟩
    obtain ⟨m3,hm3⟩:∃ m3,m3=e.chg.length:=⟨_,rfl⟩
    obtain ⟨m4,hm4⟩:∃ m4,m4=e.alm.length:=⟨_,rfl⟩
    rw [← hm1] at c13
    rw [← hm2] at c14
    rw [← hm3] at c15
    rw [← hm4] at c16
    have HM:=Lib.hid (And.intro hm1 (And.intro hm2 (And.intro hm3 hm4)))
    clear hm1 hm2 hm3 hm4
    have N4:Hid ((100<m1∨100<m2∨100<m3∨4<m4)→F=4):=Lib.hid (fun q=>by
     rw [HM.out.1,HM.out.2.1,HM.out.2.2.1,HM.out.2.2.2] at q
     rw [GL.out,LF4.out q];rfl)
    by_cases l1:100<(m1:Int)
    ·have N:=Lib.hid (N4.out (by omega))
     clear GL N4 LF4 LF1 LFR LAL CRI HV
     go_wp2
     go_ret
     exact ⟨ret_int N.out.symm,B2.out⟩
    by_cases l2:100<(m2:Int)
    ·have N:=Lib.hid (N4.out (by omega))
     clear GL N4 LF4 LF1 LFR LAL CRI HV
     go_wp2
     go_ret
     exact ⟨ret_int N.out.symm,B2.out⟩
    by_cases l3:100<(m3:Int)
    ·have N:=Lib.hid (N4.out (by omega))
     clear GL N4 LF4 LF1 LFR LAL CRI HV
     go_wp2
     go_ret
     exact ⟨ret_int N.out.symm,B2.out⟩
    by_cases l4:4<(m4:Int)
    ·have N:=Lib.hid (N4.out (by omega))
     clear GL N4 LF4 LF1 LFR LAL CRI HV
     go_wp2
     go_ret
     exact ⟨ret_int N.out.symm,B2.out⟩
    have NF:Hid (¬ (100<e.more.length∨100<e.nots.length∨100<e.chg.length∨4<e.alm.length)):=Lib.hid (by
     rw [← HM.out.1,← HM.out.2.1,← HM.out.2.2.1,← HM.out.2.2.2];omega)
    have N1:=Lib.hid (fun q=>show F=1 by rw [GL.out,LF1.out NF.out q];rfl)
    have NR:=Lib.hid (fun q=>LFR.out NF.out q)
    clear N4 LF4 LF1 LFR
    have KM:=Lib.hid (refTimes_any s.vo e.more W2 (HV.out _ B2.out).2.2.2.2.1 (by rw [← HM.out.1];omega))
    have KN:=Lib.hid (refTimes_any s.vn e.nots W2 (HV.out _ B2.out).2.2.2.2.2.1 (by rw [← HM.out.2.1];omega))
    rw [EO.out,← HM.out.1] at KM
    rw [EN.out,← HM.out.2.1] at KN
    generalize e.more.all ist=A1 at KM N1 NR
    generalize e.nots.all ist=A2 at KN N1 NR
    go_wp2_with fail
    refine KM.out.mono ?_
    rintro x w4 ⟨rfl,hw⟩
    replace hw:=hw.symm
    subst hw
    go_wp2_with fail
    refine KN.out.mono ?_
    rintro x w4 ⟨rfl,hw⟩
    replace hw:=hw.symm
    subst hw
    clear KM KN c13 c14 c16 l1 l2
    rcases A1 with _ | _
    ·have N:=Lib.hid (N1.out rfl)
     clear GL N1 NR LAL CRI HV
     go_wp2
     go_ret
     exact ⟨ret_int N.out.symm,B2.out⟩
    rcases A2 with _ | _
    ·have N:=Lib.hid (N1.out rfl)
     clear GL N1 NR LAL CRI HV
     go_wp2
     go_ret
     exact ⟨ret_int N.out.symm,B2.out⟩
    have N1c:=Lib.hid (fun (q:e.chg.all chB=false)=>N1.out (by rw [q];rfl))
    have NRc:=Lib.hid (fun (q:e.chg.all chB=true)=>NR.out (by rw [q];rfl))
    clear N1 NR
    go_wp2_with fail
    clear c15
    go_loopw [10,11,12,13,14] (fun av iv _ _ _ wr=>∃ k:Nat,k≤e.chg.length∧iv=.int .i64 k∧wr.ownsRow W2.heap.size 3 1 av k (nums (ats k e.chg))∧(e.chg.take k).all chB=true∧Below W2.heap.size W2 wr) (fun _ iv _ _ _ _=>e.chg.length - (intOf iv).toNat)
    case atStart=>exact ⟨0,Nat.zero_le _,rfl,World.ownsRow_nil _ _ _ _,rfl,Below.refl _ _⟩
    case round=>
     obtain ⟨k,hk,rfl,hown,hF,hB⟩:=hrel
     obtain ⟨wa,hwa⟩:=wnm hB
     subst hwa
     have HO:=Lib.hid hown
     have HF:=Lib.hid hF
     have HBa:=Lib.hid hB
     have Ea:=E2.out.on hB
     have c15:wa.cell? ⟨w.heap.size,15,none⟩=some (.slice ac m3 cc):=by rw [HM.out.2.2.1,← EC.out];exact Ea.2.2.2.2.1
     have al:=Ea.lt
     have m3e:=HM.out.2.2.1
     have VC:=(HV.out _ (B2.out.trans (hB.mono B2.out.size))).2.2.2.2.2.2.1
     have k100:k≤100:=by omega
     clear hown hF hB
     by_cases hlt:k<e.chg.length
     ·have hl3:k<m3:=by omega
      obtain ⟨ac',cc',ec',hc⟩:=VC
      obtain ⟨rfl,rfl⟩:ac=ac'∧cc=cc':=by rw [EC.out] at ec';simpa using ec'
      rcases hc with hc | ⟨g,off,rfl,hc⟩
      ·rw [hc] at hlt;simp at hlt
      obtain ⟨k1,k2⟩:=hc k hlt
      have gl:=ecell_in k1
      have CHB:Hid (chB (e.chg.getD k (0,0))=(ist (e.chg.getD k (0,0)).1 && (((e.chg.getD k (0,0)).2 == 0) || ist (e.chg.getD k (0,0)).2))):=Lib.hid rfl
      obtain ⟨A,hA⟩:∃ A,A=(e.chg.getD k (0,0)).1:=⟨_,rfl⟩
      obtain ⟨N,hN⟩:∃ N,N=(e.chg.getD k (0,0)).2:=⟨_,rfl⟩
      rw [← hA] at k1
      rw [← hN] at k2
      rw [← hA,← hN] at CHB
      have HA:=Lib.hid hA
      have N1k:=Lib.hid (fun q=>N1c.out (all_not chB e.chg k (0,0) hlt q))
      have T3:=Two.new wa A N 112
      have b3:Below wa.heap.size wa (wa.alloc (.cells #[.int .i64 A,.int .i64 N] 112)):=(Below.refl _ _).alloc (Nat.le_refl _) _
      obtain ⟨W3,hW3⟩:∃ W3,W3=wa.alloc (.cells #[.int .i64 A,.int .i64 N] 112):=⟨_,rfl⟩
      rw [← hW3] at T3 b3
      have HW3:=Lib.hid hW3
      have HT3:=Lib.hid T3
      have B3:=Lib.hid b3
      have HO3:=Lib.hid (ow_below HO.out b3)
      have HM3:=Lib.hid m3e
      have HKL:=Lib.hid hlt
      clear hc ec' hA hN T3 b3 hW3 N1c NRc LAL CRI GL E2 HV m3e Ea
      go_upto_region 30 with fail
      rw [← HW3.out]
      clear HW3 c15 k1 k2 gl al
      have t0:=HT3.out.1
      have t1:=HT3.out.2
      have tl:=HT3.out.lt
      go_wp2_with fail
      refine (refTime_any A _).mono ?_
      rintro x w4 ⟨rfl,hw⟩
      replace hw:=hw.symm
      subst hw
      go_wp2_with fail
      refine (refTime_any N _).mono ?_
      rintro x w4 ⟨rfl,hw⟩
      replace hw:=hw.symm
      subst hw
      have sz3:W2.heap.size≤W3.heap.size:=Nat.le_trans HBa.out.size B3.out.size
      have BF:=Lib.hid ((B2.out.trans (HBa.out.mono B2.out.size)).trans (B3.out.mono (Nat.le_trans B2.out.size HBa.out.size)))
      rcases hiA:ist A with _ | _
      ·have NN:=Lib.hid (N1k.out (by rw [CHB.out,hiA];rfl))
       clear N1k CHB HO HO3
       go_wp2
       go_ret
       exact ⟨ret_int NN.out.symm,BF.out⟩
      rcases hiN:ist N with _ | _
      ·rcases hzN:(N != 0) with _ | _
       case true=>
        have NN:=Lib.hid (N1k.out (by rw [CHB.out,hiA,hiN];simp at hzN;simp [hzN]))
        clear N1k CHB HO HO3
        go_wp2
        go_ret
        exact ⟨ret_int NN.out.symm,BF.out⟩
       have CT:=Lib.hid (all_take chB e.chg k (0,0) hlt HF.out (by rw [CHB.out,hiA,hiN];simp at hzN;simp [hzN]))
       clear N1k CHB
       go_wp2_with (at_builtin;refine wpList_append_own _ rfl _ _ 26 rfl W2.heap.size 3 i0 (.int .i64 0) 1 8 Tryz.underlying26 hi hz0 hz1 hz2 rfl (by decide) _ _ _ rfl (HO3.out.alloc _) ⟨W3.heap.size,0,none⟩ 1 1 [.int .i64 A] rfl rfl ?d1 ?d2 ?d3 ?d4 ?d5 ?_)
       case d1=>
        intro j u hj
        match j,hj with
        | 0,hj=>simp at hj;subst hj;simp [Addr.add]
       case d2=>intro u hu;simp at hu;subst hu;rfl
       case d3=>unfold maxLen;omega
       case d4=>omega
       case d5=>simp;omega
       intro v' w5 hown' hgrow _
       have Q2:=Lib.hid (ow_grow HBa.out.size HBa.out B3.out HO.out hgrow)
       have Q1:=Lib.hid hown'
       rw [← nums_snoc] at Q1
       clear hown' hgrow HO HO3
       go_wp2
       go_roundw
       case rel=>exact ⟨k + 1,by omega,by go_num,by rw [ats_snoc hlt,← HA.out];exact Q1.out,CT.out,Q2.out⟩
       case measure=>simp [intOf];omega
      ·have hzN:=hiN
       have CT:=Lib.hid (all_take chB e.chg k (0,0) hlt HF.out (by rw [CHB.out,hiA,hiN];simp))
       clear N1k CHB
       go_wp2_with (at_builtin;refine wpList_append_own _ rfl _ _ 26 rfl W2.heap.size 3 i0 (.int .i64 0) 1 8 Tryz.underlying26 hi hz0 hz1 hz2 rfl (by decide) _ _ _ rfl (HO3.out.alloc _) ⟨W3.heap.size,0,none⟩ 1 1 [.int .i64 A] rfl rfl ?d1 ?d2 ?d3 ?d4 ?d5 ?_)
       case d1=>
        intro j u hj
        match j,hj with
        | 0,hj=>simp at hj;subst hj;simp [Addr.add]
       case d2=>intro u hu;simp at hu;subst hu;rfl
       case d3=>unfold maxLen;omega
       case d4=>omega
       case d5=>simp;omega
       intro v' w5 hown' hgrow _
       have Q2:=Lib.hid (ow_grow HBa.out.size HBa.out B3.out HO.out hgrow)
       have Q1:=Lib.hid hown'
       rw [← nums_snoc] at Q1
       clear hown' hgrow HO HO3
       go_wp2
       go_roundw
       case rel=>exact ⟨k + 1,by omega,by go_num,by rw [ats_snoc hlt,← HA.out];exact Q1.out,CT.out,Q2.out⟩
       case measure=>simp [intOf];omega
     have l3':¬ k<m3:=by omega
     have FULL:=all_end chB e.chg k hlt HF.out
     have LR:=Lib.hid (NRc.out FULL)
     have ke:k=e.chg.length:=by omega
     have IS0:=ow_ints HO.out
     rw [ke,ats_end] at IS0
     have IS:=Lib.hid IS0
     have B4:=Lib.hid (B2.out.trans (HBa.out.mono B2.out.size))
     have E4:=Lib.hid Ea
     rw [CRI.out] at LR
     clear FULL HF HO N1c NRc CRI VC IS0 E2 B2 HBa Ea ke hk k100 hlt
     obtain ⟨LST,hLST⟩:∃ LST,LST=e.chg.map (·.1):=⟨_,rfl⟩
     have ll:LST.length≤1000:=by rw [hLST,List.length_map,← HM.out.2.2.1];omega
     rw [← hLST] at LR IS
     have K1:=Lib.hid (rises_any s.vo e.more wa (HV.out _ B4.out).2.2.2.2.1 (by have:=NF.out;omega))
     rw [EO.out,← HM.out.1] at K1
     have c13:wa.cell? ⟨w.heap.size,13,none⟩=some (.slice ao m1 co):=by rw [HM.out.1,← EO.out];exact E4.out.2.2.1
     have wl:=E4.out.lt
     clear hLST
     go_wp2_with fail
     clear c13 wl c15 al l3'
     refine K1.out.mono ?_
     rintro x w5 ⟨rfl,hb⟩
     have B5:=Lib.hid (B4.out.trans (hb.mono B4.out.size))
     have E5:=Lib.hid (E4.out.on hb)
     have I5:=Lib.hid (IS.out.on hb)
     clear hb B4 E4 IS K1
     have K1:=Lib.hid (rises_any s.vn e.nots w5 (HV.out _ B5.out).2.2.2.2.2.1 (by have:=NF.out;omega))
     rw [EN.out,← HM.out.2.1] at K1
     have c14:w5.cell? ⟨w.heap.size,14,none⟩=some (.slice an m2 cn):=by rw [HM.out.2.1,← EN.out];exact E5.out.2.2.2.1
     have wl:=E5.out.lt
     go_wp2_with fail
     clear c14 wl
     refine K1.out.mono ?_
     rintro x w6 ⟨rfl,hb⟩
     have B6:=Lib.hid (B5.out.trans (hb.mono B5.out.size))
     have E6:=Lib.hid (E5.out.on hb)
     have K2:=Lib.hid (rises_any _ LST w6 (I5.out.on hb) ll)
     clear hb B5 E5 I5 K1
     go_wp2_with fail
     refine K2.out.mono ?_
     rintro x w7 ⟨rfl,hb⟩
     have B7:=Lib.hid (B6.out.trans (hb.mono B6.out.size))
     have E7:=Lib.hid (E6.out.on hb)
     clear hb B6 E6 K2 ll
     generalize risB e.more=G1 at LR ⊢
     generalize risB e.nots=G2 at LR ⊢
     generalize risB LST=G3 at LR ⊢
     have N7:Hid ((G1 && G2 && G3)=false→F=7):=Lib.hid (fun q=>by rw [GL.out,LR.out,if_pos q] <;> rfl)
     have N0:Hid ((G1 && G2 && G3)=true→F=amF e.alm):=Lib.hid (fun q=>by rw [GL.out,LR.out,if_neg (by rw [q];decide)] <;> rfl)
     clear GL LR
     rcases G1 with _ | _
     ·have NN:=Lib.hid (N7.out rfl)
      clear N7 N0 HV
      go_wp2
      go_ret
      exact ⟨ret_int NN.out.symm,B7.out⟩
     rcases G2 with _ | _
     ·have NN:=Lib.hid (N7.out rfl)
      clear N7 N0 HV
      go_wp2
      go_ret
      exact ⟨ret_int NN.out.symm,B7.out⟩
     rcases G3 with _ | _
     ·have NN:=Lib.hid (N7.out rfl)
      clear N7 N0 HV
      go_wp2
      go_ret
      exact ⟨ret_int NN.out.symm,B7.out⟩
     have NF0:=Lib.hid (N0.out rfl)
     clear N7 N0
     go_wp2_with fail
     go_loopw [16,17] (fun iv _ wr=>∃ k:Nat,k≤m4∧iv=.int .i64 k∧(∀ j,j<k→alF (e.alm.getD j (0,false,0,0))=0)∧Below w7.heap.size w7 wr) (fun iv _ _=>m4 - (intOf iv).toNat)
     case atStart=>exact ⟨0,Nat.zero_le _,rfl,fun j hj=>absurd hj (Nat.not_lt_zero _),Below.refl _ _⟩
     case round=>
      obtain ⟨j,hj,rfl,hF,hB⟩:=hrel
      obtain ⟨wa2,hwa⟩:=wnm hB
      subst hwa
      have HF:=Lib.hid hF
      have HBa:=Lib.hid hB
      have Ea:=E7.out.on hB
      have c16:wa2.cell? ⟨w.heap.size,16,none⟩=some (.slice aa m4 ca):=by rw [HM.out.2.2.2,← EA.out];exact Ea.2.2.2.2.2
      have al:=Ea.lt
      have VA:=(HV.out _ (B7.out.trans (hB.mono B7.out.size))).2.2.2.2.2.2.2
      have BZ:=Lib.hid (B7.out.trans (hB.mono B7.out.size))
      have HM4:=Lib.hid HM.out.2.2.2
      clear hF hB Ea
      by_cases hlt:j<m4
      ·obtain ⟨aa',ca',ea',hc⟩:=VA
       obtain ⟨rfl,rfl⟩:aa=aa'∧ca=ca':=by rw [EA.out] at ea';simpa using ea'
       have hlt':j<e.alm.length:=by rw [← HM4.out];exact hlt
       rcases hc with hc | ⟨g,off,rfl,hc⟩
       ·rw [hc] at hlt';simp at hlt'
       obtain ⟨k0,k1,k2,k3⟩:=hc j hlt'
       have gl:=ecell_in k0
       have AT:=Lib.hid (fun q=>amF_at e.alm j hlt' HF.out q)
       have NX:=Lib.hid (fun (q:alF (e.alm.getD j (0,false,0,0))=0)=>show ∀ i,i<j + 1→alF (e.alm.getD i (0,false,0,0))=0 from fun i hi=>by
        rcases Nat.lt_or_ge i j with z | z
        ·exact HF.out i z
        ·rw [show i=j by omega];exact q)
       generalize e.alm.getD j (0,false,0,0)=Y at k0 k1 k2 k3 AT NX
       obtain ⟨y1,y2,y3,y4⟩:=Y
       dsimp only at k0 k1 k2 k3
       have K:=Lib.hid (refAlarm_any y1 y2 y3 y4 wa2)
       generalize alF (y1,y2,y3,y4)=R at K AT NX
       clear hc ea' hlt' HV HF
       go_wp2_with fail
       clear k0 k1 k2 k3 c16 al gl
       refine K.out.mono ?_
       rintro x w8 ⟨rfl,hb⟩
       have B8:=Lib.hid (BZ.out.trans (hb.mono BZ.out.size))
       have B9:=Lib.hid (HBa.out.trans (hb.mono HBa.out.size))
       clear hb K
       rcases hq:(R != 0) with _ | _
       ·have N1:=Lib.hid (NX.out (by simpa using hq))
        clear NX AT
        go_wp2
        go_roundw
        case rel=>exact ⟨j + 1,by omega,by go_num,N1.out,B9.out⟩
        case measure=>simp [intOf];omega
       ·have N1:Hid (F=R):=Lib.hid (by rw [NF0.out];exact AT.out (by simpa using hq))
        clear NX AT
        go_wp2
        go_ret
        exact ⟨ret_int N1.out.symm,B8.out⟩
      ·have N1:Hid (F=0):=Lib.hid (by rw [NF0.out];exact amF_end e.alm (fun i hi=>HF.out i (by rw [← HM4.out] at hi;omega)))
       clear HV VA
       go_wp2
       go_ret
       exact ⟨ret_int N1.out.symm,BZ.out⟩
end Go.Proofs.YtoncfgfjdlgfcaaGreatDoor
namespace Go.Proofs.YtoncfgfjdlgfcaaGreatDoor
open Go.RowKit Cal Txt
set_option maxRecDepth 100000 in
set_option maxHeartbeats 2000000 in
theorem refReady_any (a:Int) (l:List (Int × Int)) (v:Value) (e:Evt) (s:Evs) (w:World) (hz:ZoneIn w v a l) (hv:EvB w e s) (hs:e.rule.months.length + e.rule.days.length + e.rule.weeks.length + e.rule.pick.length≤9223372036854775807) :
 Calls Tryz.prog 24 #[v,.agg (ecells e s)] w fun x w'=>x=.returned (.int .i64 (ezF a l e))∧Below w.heap.size w w':=by
 have HZ:=Lib.hid (fun W (q:Below w.heap.size w W)=>hz.on q)
 obtain ⟨sa,sc,rfl⟩:=hz.form
 obtain ⟨W0,hW,B0,_,Z0,R0⟩:=two_boxes w a l sa sc e s
 have HW:=Lib.hid hW
 have HB:=Lib.hid B0
 have HE:=Lib.hid R0
 have HX:=Lib.hid Z0
 have KC:=Lib.hid (refEvent_any e s W0 (hv.on B0) hs)
 have KZ:=Lib.hid (fun W (q:Below w.heap.size w W)=>refZone_any a l _ W (HZ.out _ q))
 have N1:Hid (¬ evF e=0→ezF a l e=evF e):=Lib.hid (fun q=>if_pos q)
 have N2:Hid (evF e=0→ezF a l e=Zo.zf a l):=Lib.hid (fun q=>if_neg (fun z=>z q))
 generalize ezF a l e=F at N1 N2 ⊢
 generalize evF e=EF at N1 N2 KC
 generalize Zo.zf a l=ZF at N2 KZ
 clear hz hv hW B0 Z0 R0 hs
 go_enter Tryz.func24,Tryz.ntmps24
 go_upto_region 1 with fail
 rw [← HW.out]
 clear HW
 go_wp2_with (refine ev_load ?h1 (.tmp 3) ?h2 (w.heap.size + 1) e s ?h3 HE.out ?h4;(case h1=>rfl);(case h2=>rfl);(case h3=>rfl))
 refine KC.out.mono ?_
 rintro y w1 ⟨rfl,hb⟩
 have B1:=Lib.hid (HB.out.trans (hb.mono HB.out.size))
 have X1:=Lib.hid (HX.out.on hb)
 clear hb KC HB HE HX
 rcases h0:(EF == 0) with _ | _
 ·have N:=Lib.hid (N1.out (by simpa using h0))
  clear N1 N2 KZ
  go_wp2
  go_ret
  exact ⟨by rw [N.out];rfl,B1.out⟩
 ·have N:=Lib.hid (N2.out (by simpa using h0))
  have K:=Lib.hid (KZ.out _ B1.out)
  obtain ⟨c0,c1⟩:=X1.out
  have cl:=ecell_in c0
  clear N1 N2 KZ
  go_wp2_with fail
  clear c0 c1 cl
  refine K.out.mono ?_
  rintro y w2 ⟨rfl,hb⟩
  have B2:=Lib.hid (B1.out.trans (hb.mono B1.out.size))
  clear hb K
  go_wp2
  go_ret
  exact ⟨by rw [N.out];rfl,B2.out⟩
end Go.Proofs.YtoncfgfjdlgfcaaGreatDoor
