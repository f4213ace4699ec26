/-
  Texts of our own that serve the card of this claim, joined into one.
-/
import Derived.Test.YtcadomjkjoiakaaGreatDoorQR
import Derived.Test.YtcadomjkjoiakaaGreatDoorQS
import Derived.Test.YtcadomjkjoiakaaGreatDoorDA
import Derived.Test.YtcadomjkjoiakaaGreatDoorAX
import Derived.Test.YtcadomjkjoiakaaGreatDoorBZ
import Derived.BigQuiet
namespace Go.Proofs.YtcadomjkjoiakaaGreatDoor
open Go.RowKit Cal Txt Ln Cb
theorem evB_one {w:World} {e:Evt} {s:Evs} (h:EvB w e s):(ecells e s).all (fun x=>x.oneCell')=true:=by
 obtain ⟨⟨_,_,q1,_⟩,⟨_,_,q2,_⟩,⟨_,_,q3,_⟩,⟨_,_,q4,_⟩,⟨_,_,q5,_⟩,⟨_,_,q6,_⟩,⟨_,_,q7,_⟩,⟨_,_,q8,_⟩⟩:=h
 simp [Value.oneCell',q1,q2,q3,q4,q5,q6,q7,q8]
theorem tb_len (a:Int) (l:List (Int × Int)) (e:Evt) (fr t:Int):(tbL a l e fr t).length≤200:=by
 by_cases h:tbF a l e fr t=0
 ·obtain ⟨_,_,q,z⟩:=tb_good h
  rw [q];exact z
 ·have:tbL a l e fr t=[]:=if_neg h
  rw [this];simp
theorem ra_len (a:Int) (l:List (Int × Int)) (e:Evt) (fr t:Int):(raL a l e fr t).length≤400:=by
 unfold raL
 split
 ·rename_i h
  unfold raF at h
  split at h
  ·rename_i q;exact absurd h q
  ·split at h
   ·cases h
   ·omega
 ·simp
set_option maxRecDepth 100000 in
set_option maxHeartbeats 16000000 in
theorem tcards (a:Int) (l:List (Int × Int)) (v:Value) (e:Evt) (s:Evs) (fr t:Int) (w:World) (hz:ZoneIn w v a l) (hv:EvB w e s) (hK:KeepK w) (hT:Tab w) :
 Calls Tryz.prog 3 #[v,.agg (ecells e s),.int .i64 fr,.int .i64 t] w fun x w'=>x=.returned (.bool true)∧Below w.heap.size w w':=by
 have HZ:=Lib.hid (fun W (q:Below w.heap.size w W)=>hz.on q)
 have HV:=Lib.hid (fun W (q:Below w.heap.size w W)=>hv.on q)
 have HK:Hid (∀ W,Below w.heap.size w W→KeepK W):=Lib.hid (fun W q=>hK.below q)
 have HT:=Lib.hid (fun W (q:Below w.heap.size w W)=>hT.below q)
 obtain ⟨sa,sc,rfl⟩:=hz.form
 obtain ⟨W0,hW,B0,zz,Z0,R0⟩:=two_boxes w a l sa sc e s
 have HW:=Lib.hid hW
 have HB:=Lib.hid B0
 have HE:=Lib.hid R0
 have HX:=Lib.hid Z0
 clear hz hv hT hK hW B0 zz Z0 R0
 go_enter Tryz.func3,Tryz.ntmps3
 go_upto_region 1 with fail
 rw [← HW.out]
 clear HW
 go_wp2_with fail
 refine (one_any W0 (HT.out _ HB.out)).mono ?_
 rintro x w1 ⟨rfl,hb⟩
 have B1:=Lib.hid (HB.out.trans (hb.mono HB.out.size))
 have E1:=Lib.hid (HE.out.on hb)
 have X1:=Lib.hid (HX.out.on hb)
 clear hb HB HE HX
 go_wp2_with (refine ev_load (by rfl) (.tmp 5) (by rfl) (w.heap.size + 1) e s (by rfl) E1.out ?_)
 refine (cprint_any e s w1 (HV.out _ B1.out) (HK.out _ B1.out)).mono ?_
 rintro x w2 ⟨rfl,hb⟩
 have B2:=Lib.hid (B1.out.trans (hb.mono B1.out.size))
 have E2:=Lib.hid (E1.out.on hb)
 have X2:=Lib.hid (X1.out.on hb)
 clear hb B1 E1 X1
 by_cases hz:evF e=0
 case neg=>
  rw [if_neg hz,efault_ne hz]
  clear hz
  go_wp2
  go_ret
  exact ⟨rfl,B2.out⟩
 have F0:fault (evF e)=.nilIface:=by rw [hz];rfl
 rw [if_pos hz,F0]
 have KP:=Lib.hid (cparse_any (tb (crd e)) w2 (HK.out w2 B2.out) (by rw [tb_size];have:=crd_len hz;omega))
 have PR:=Lib.hid (psd_read hz)
 clear F0 hz
 go_wp2_with fail
 refine KP.out.mono ?_
 rintro x w3 ⟨hb,hx⟩
 rw [tb_data] at hx
 rcases hx with ⟨e1,s2,hp,hv2,rfl⟩ | ⟨hn,_⟩
 case inr=>exact absurd PR.out (hn e)
 obtain rfl:e1=e:=psd_one hp PR.out
 have B3:=Lib.hid (B2.out.trans (hb.mono B2.out.size))
 have E3:=Lib.hid (E2.out.on hb)
 have X3:=Lib.hid (X2.out.on hb)
 have OC:=Lib.hid (evB_one hv2)
 have HV2:=Lib.hid hv2
 clear hp hb KP E2 B2 X2 hv2 PR
 go_upto_region 8 with (refine ev_store ?j1 (.tmp 12) (.tmp 37) ?j2 w3.heap.size _ _ ?j3 rfl e1 s2 ?j4 ?j5 ?j6 ?j7;(case j1=>rfl);(case j2=>rfl);(case j3=>rfl);(case j4=>exact OC.out);(case j5=>rfl);(case j6=>rfl);intro W4 r1 b1;have Q4:=Lib.hid r1.1;have BB4:=Lib.hid b1;clear r1 b1)
 have B4:=Lib.hid (B3.out.trans (BB4.out.mono B3.out.size))
 have E4:=Lib.hid (E3.out.on BB4.out)
 have X4:=Lib.hid (X3.out.on BB4.out)
 have V4:=Lib.hid (HV2.out.on BB4.out)
 clear B3 E3 X3 HV2 BB4 OC
 generalize w3.heap.size=XB at Q4 ⊢
 have K1:=Lib.hid (tbetween_any a l _ e1 s fr t W4 (HZ.out _ B4.out) (HV.out _ B4.out) (HT.out _ B4.out))
 have K2:Hid (∀ W,Below W4.heap.size W4 W→Calls Tryz.prog 7 #[.agg #[.int .i64 a,.slice sa l.length sc],.agg (ecells e1 s2),.int .i64 fr,.int .i64 t] W (TbA W (tbL a l e1 fr t) (tbF a l e1 fr t))):=Lib.hid (fun W q=>by
  have q2:=B4.out.trans (q.mono B4.out.size)
  exact tbetween_any a l _ e1 s2 fr t W (HZ.out _ q2) (V4.out.on q) (HT.out _ q2))
 have K3:Hid (∀ W,Below W4.heap.size W4 W→Calls Tryz.prog 8 #[.agg #[.int .i64 a,.slice sa l.length sc],.agg (ecells e1 s),.int .i64 fr,.int .i64 t] W (RaA e1.name W (raL a l e1 fr t) (raF a l e1 fr t))):=Lib.hid (fun W q=>by
  have q2:=B4.out.trans (q.mono B4.out.size)
  exact rings_any a l _ e1 s fr t W (HZ.out _ q2) (HV.out _ q2) (HT.out _ q2))
 have K4:Hid (∀ W,Below W4.heap.size W4 W→Calls Tryz.prog 8 #[.agg #[.int .i64 a,.slice sa l.length sc],.agg (ecells e1 s2),.int .i64 fr,.int .i64 t] W (RaA e1.name W (raL a l e1 fr t) (raF a l e1 fr t))):=Lib.hid (fun W q=>by
  have q2:=B4.out.trans (q.mono B4.out.size)
  exact rings_any a l _ e1 s2 fr t W (HZ.out _ q2) (V4.out.on q) (HT.out _ q2))
 have TL:Hid ((tbL a l e1 fr t).length≤2000000):=Lib.hid (by have:=tb_len a l e1 fr t;omega)
 have RL:Hid ((raL a l e1 fr t).length≤2000000):=Lib.hid (by have:=ra_len a l e1 fr t;omega)
 generalize tbL a l e1 fr t=L at K1 K2 TL
 generalize tbF a l e1 fr t=F at K1 K2
 generalize raL a l e1 fr t=R at K3 K4 RL
 generalize raF a l e1 fr t=G at K3 K4
 clear HZ HV HT HK V4
 obtain ⟨z0,z1⟩:=X4.out
 have zl:=ecell_in z0
 go_upto_region 11 with (first | (refine ev_load (by rfl) (.tmp 5) (by rfl) (w.heap.size + 1) e1 s (by rfl) E4.out ?_) | (go_at_call 7;refine K1.out.mono ?_;rintro x w5 ⟨u1,rfl,hm1,hb5,_⟩))
 have M5:=Lib.hid hm1
 have B5:=Lib.hid hb5
 have E5:=Lib.hid (E4.out.on hb5)
 have Q5:=Lib.hid (Q4.out.on hb5)
 have X5:=Lib.hid (X4.out.on hb5)
 clear hm1 hb5 z0 z1 zl E4 Q4 X4 K1
 obtain ⟨z0,z1⟩:=X5.out
 have zl:=ecell_in z0
 go_upto_region 12 with (first | (refine ev_load (by rfl) (.tmp 12) (by rfl) XB e1 s2 (by rfl) Q5.out ?_) | (go_at_call 7;refine (K2.out _ B5.out).mono ?_;rintro x w6 ⟨u2,rfl,hm2,hb6,_⟩))
 have M6:Hid (Tms w6 u1 L∧Tms w6 u2 L):=Lib.hid ⟨M5.out.on hb6,hm2⟩
 have B6:=Lib.hid (B5.out.trans (hb6.mono B5.out.size))
 have E6:=Lib.hid (E5.out.on hb6)
 have Q6:=Lib.hid (Q5.out.on hb6)
 have X6:=Lib.hid (X5.out.on hb6)
 clear hm2 hb6 z0 z1 zl E5 Q5 X5 K2 M5 B5
 obtain ⟨z0,z1⟩:=X6.out
 have zl:=ecell_in z0
 go_upto_region 13 with (first | (refine ev_load (by rfl) (.tmp 5) (by rfl) (w.heap.size + 1) e1 s (by rfl) E6.out ?_) | (go_at_call 8;refine (K3.out _ B6.out).mono ?_;rintro x w7 ⟨u3,rfl,hb7,ow7⟩))
 have R7:=Lib.hid (own_rowK (enc:=encR e1.name) (k:=5) (fun _=>rfl) (by decide) ow7)
 have M7:Hid (Tms w7 u1 L∧Tms w7 u2 L):=Lib.hid ⟨M6.out.1.on hb7,M6.out.2.on hb7⟩
 have B7:=Lib.hid (B6.out.trans (hb7.mono B6.out.size))
 have Q7:=Lib.hid (Q6.out.on hb7)
 have X7:=Lib.hid (X6.out.on hb7)
 clear ow7 hb7 z0 z1 zl E6 Q6 X6 K3 M6 B6
 obtain ⟨z0,z1⟩:=X7.out
 have zl:=ecell_in z0
 go_upto_region 14 with (first | (refine ev_load (by rfl) (.tmp 12) (by rfl) XB e1 s2 (by rfl) Q7.out ?_) | (go_at_call 8;refine (K4.out _ B7.out).mono ?_;rintro x w8 ⟨u4,rfl,hb8,ow8⟩))
 have R8:=Lib.hid (And.intro (R7.out.on hb8) (own_rowK (enc:=encR e1.name) (k:=5) (fun _=>rfl) (by decide) ow8))
 have M8:Hid (Tms w8 u1 L∧Tms w8 u2 L):=Lib.hid ⟨M7.out.1.on hb8,M7.out.2.on hb8⟩
 have B8:=Lib.hid (B7.out.trans (hb8.mono B7.out.size))
 clear ow8 hb8 z0 z1 zl Q7 X7 K4 M7 B7 R7
 go_upto_region 15 with (go_at_call 9;refine (sameTimes L u1 u2 w8 M8.out.1 M8.out.2 TL.out).mono ?_;rintro x w9 ⟨rfl,hb9⟩)
 have R9:=Lib.hid (And.intro (R8.out.1.on hb9) (R8.out.2.on hb9))
 have B9:=Lib.hid (B8.out.trans (hb9.mono B8.out.size))
 clear hb9 R8 M8 B8
 go_upto_region 16 with (go_at_call 10;refine (sameRings e1.name R u3 u4 w9 R9.out.1 R9.out.2 RL.out).mono ?_;rintro x w10 ⟨rfl,hb10⟩)
 have BZ:Hid (Below w.heap.size w w10):=Lib.hid (by
  have q:=B9.out.trans (hb10.mono B9.out.size)
  exact B4.out.trans (q.mono B4.out.size))
 clear hb10 R9 B9 B4 TL RL
 by_cases hF:F=0
 ·rw [hF,efault_0]
  by_cases hG:G=0
  ·rw [hG,efault_0]
   clear hF hG
   go_quiet (fail)
   go_wp2
   go_ret
   exact ⟨rfl,below_drewN BZ.out _⟩
  ·rw [efault_ne hG]
   clear hF hG
   go_quiet (fail)
   go_wp2
   go_ret
   exact ⟨rfl,below_drewN BZ.out _⟩
 ·rw [efault_ne hF]
  by_cases hG:G=0
  ·rw [hG,efault_0]
   clear hF hG
   go_quiet (fail)
   go_wp2
   go_ret
   exact ⟨rfl,below_drewN BZ.out _⟩
  ·rw [efault_ne hG]
   clear hF hG
   go_quiet (fail)
   go_wp2
   go_ret
   exact ⟨rfl,below_drewN BZ.out _⟩
end Go.Proofs.YtcadomjkjoiakaaGreatDoor
