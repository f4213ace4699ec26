/-
  What is proved here: what package card's valuesOf lists of an event that is right, kind by kind (a contract over the translation); tables are asked as premises.
-/
import Derived.Test.YtcadomjkjoiakaaGreatDoorCP
import Derived.Test.YtcadomjkjoiakaaGreatDoorQZ
import Derived.Test.YtcadomjkjoiakaaGreatDoorQW
namespace Go.Proofs.YtcadomjkjoiakaaGreatDoor
open Go.RowKit Cal Txt Ln Cb
structure KeepK (W:World):Prop where
 kp:KeepP W
 uni:Uni W
 mrk:Mrk W
 knd:KnW W
theorem KeepK.below {W W':World} (h:KeepK W) (q:Below W.heap.size W W'):KeepK W':=⟨h.kp.below q,h.uni.below q,h.mrk.below q,h.knd.below q⟩
def vls (e:Evt) (k:Nat):List (List UInt8):=
 if k=0 then [e.name.data.toList] else if k=1 then (if e.text.data.toList=[] then [] else [esc e.text.data.toList]) else if k=2 then [txt e.start] else if k=3 then [spt e.len] else if k=4 then (if e.rep=true then [rt e.rule] else [])
 else if k=5 then e.more.map txt else if k=6 then e.nots.map txt else if k=7 then e.chg.map vM else e.alm.map vA
theorem one_txs (W:World) (x:ByteArray) (t:TypeId):Txs (W.alloc (.cells #[.string x] t)) (.slice (some ⟨W.heap.size,0,none⟩) 1 1) [x]:=
 ⟨some ⟨W.heap.size,0,none⟩,1,rfl,Or.inr ⟨W.heap.size,0,rfl,fun i hi=>by
  have:i=0:=by simp at hi;omega
  subst this
  simp⟩⟩
theorem vl_one {w W:World} (hb:Below w.heap.size w W) (l:List UInt8) (t:TypeId):VlA [l] w (.returned (.slice (some ⟨W.heap.size,0,none⟩) 1 1)) (W.alloc (.cells #[.string (tb l)] t)):=
 ⟨_,rfl,one_txs W (tb l) t,fun a n c e=>by
  have:(⟨W.heap.size,0,none⟩:Addr)=a:=by injection e with e1 _ _;injection e1
  rw [← this];exact hb.size,hb.alloc hb.size _⟩
theorem vl_nil {w W:World} (hb:Below w.heap.size w W):VlA [] w (.returned (.slice none 0 0)) W:=⟨_,rfl,⟨none,0,rfl,Or.inl rfl⟩,fun a n c e=>(by cases e),hb⟩
theorem VlA.far {ls:List (List UInt8)} {w W w':World} {x:Ending} (hb:Below w.heap.size w W) (h:VlA ls W x w'):VlA ls w x w':=by
 obtain ⟨u,h1,h2,h3,h4⟩:=h
 exact ⟨u,h1,h2,h3.mono hb.size,hb.trans (h4.mono hb.size)⟩
set_option maxRecDepth 100000 in
set_option maxHeartbeats 8000000 in
theorem vals_0 (e:Evt) (s:Evs) (w:World) (hv:EvB w e s) (h:evF e=0) (hK:KeepK w):Calls Tryz.prog 29 #[.agg (ecells e s),.string ⟨#[78,65,77,69]⟩] w (VlA (vls e 0) w):=by
 obtain ⟨⟨n1,n2⟩,t1,⟨l1,l2⟩,hru,⟨k1,k2,k3,k4⟩,m1,m2,m3,m4⟩:=evF_card h
 have B0:=(Below.refl w.heap.size w).alloc (Nat.le_refl _) (.cells (ecells e s) 32)
 have R0:=EBox.new w e s 32
 obtain ⟨W0,hW⟩:∃ W0,W0=w.alloc (.cells (ecells e s) 32):=⟨_,rfl⟩
 rw [← hW] at B0 R0
 have HW:=Lib.hid hW
 have HB:=Lib.hid B0
 have HK:=Lib.hid (hK.below B0)
 have HV:=Lib.hid (hv.on B0)
 have lt0:=R0.lt
 obtain ⟨⟨a0,a1,a2,a3,a4⟩,⟨b0,b1,b2,b3,b4,b5,b6,b7⟩,c0,c1,c2,c3⟩:=R0
 clear hW B0 hK hv h n1 n2 t1 l1 l2 hru k1 k2 k3 k4 m1 m2 m3 m4 a1 a2 a3 a4 b0 b1 b2 b3 b4 b5 b6 b7 c0 c1 c2 c3
 go_enter Tryz.func29,Tryz.ntmps29
 go_upto_region 1 with fail
 rw [← HW.out]
 clear HW
 go_wp2
 go_ret
 exact vl_one HB.out _ _
set_option maxRecDepth 100000 in
set_option maxHeartbeats 8000000 in
theorem vals_1 (e:Evt) (s:Evs) (w:World) (hv:EvB w e s) (h:evF e=0) (hK:KeepK w):Calls Tryz.prog 29 #[.agg (ecells e s),.string ⟨#[84,69,88,84]⟩] w (VlA (vls e 1) w):=by
 obtain ⟨⟨n1,n2⟩,t1,⟨l1,l2⟩,hru,⟨k1,k2,k3,k4⟩,m1,m2,m3,m4⟩:=evF_card h
 have B0:=(Below.refl w.heap.size w).alloc (Nat.le_refl _) (.cells (ecells e s) 32)
 have R0:=EBox.new w e s 32
 obtain ⟨W0,hW⟩:∃ W0,W0=w.alloc (.cells (ecells e s) 32):=⟨_,rfl⟩
 rw [← hW] at B0 R0
 have HW:=Lib.hid hW
 have HB:=Lib.hid B0
 have HK:=Lib.hid (hK.below B0)
 have HV:=Lib.hid (hv.on B0)
 have lt0:=R0.lt
 obtain ⟨⟨a0,a1,a2,a3,a4⟩,⟨b0,b1,b2,b3,b4,b5,b6,b7⟩,c0,c1,c2,c3⟩:=R0
 have K:=Lib.hid (escape_any e.text W0 HK.out.mrk (by omega))
 clear hW B0 hK hv h n1 n2 t1 l1 l2 hru k1 k2 k3 k4 m1 m2 m3 m4 a0 a2 a3 a4 b0 b1 b2 b3 b4 b5 b6 b7 c0 c1 c2 c3
 go_enter Tryz.func29,Tryz.ntmps29
 go_upto_region 1 with fail
 rw [← HW.out]
 clear HW
 rcases hz:(e.text.toList == []) with _ | _
 ·have z:¬ e.text.data.toList=[]:=fun q=>by rw [ByteArray.toList_eq,q] at hz;cases hz
  have E:Hid (vls e 1=[esc e.text.data.toList]):=Lib.hid (if_neg z)
  go_wp2_with fail
  refine K.out.mono ?_
  rintro x w1 ⟨rfl,hb⟩
  have Z1:=Lib.hid (HB.out.trans (hb.mono HB.out.size))
  clear hb K HB HK HV a1 lt0
  go_wp2
  go_ret
  rw [E.out]
  exact vl_one Z1.out _ _
 ·have z:e.text.data.toList=[]:=by rw [ByteArray.toList_eq] at hz;simpa using hz
  have E:Hid (vls e 1=[]):=Lib.hid (if_pos z)
  clear z
  go_wp2
  go_ret
  rw [E.out]
  exact vl_nil HB.out
set_option maxRecDepth 100000 in
set_option maxHeartbeats 8000000 in
theorem vals_2 (e:Evt) (s:Evs) (w:World) (hv:EvB w e s) (h:evF e=0) (hK:KeepK w):Calls Tryz.prog 29 #[.agg (ecells e s),.string ⟨#[83,84,65,82,84]⟩] w (VlA (vls e 2) w):=by
 obtain ⟨⟨n1,n2⟩,t1,⟨l1,l2⟩,hru,⟨k1,k2,k3,k4⟩,m1,m2,m3,m4⟩:=evF_card h
 have B0:=(Below.refl w.heap.size w).alloc (Nat.le_refl _) (.cells (ecells e s) 32)
 have R0:=EBox.new w e s 32
 obtain ⟨W0,hW⟩:∃ W0,W0=w.alloc (.cells (ecells e s) 32):=⟨_,rfl⟩
 rw [← hW] at B0 R0
 have HW:=Lib.hid hW
 have HB:=Lib.hid B0
 have HK:=Lib.hid (hK.below B0)
 have HV:=Lib.hid (hv.on B0)
 have lt0:=R0.lt
 obtain ⟨⟨a0,a1,a2,a3,a4⟩,⟨b0,b1,b2,b3,b4,b5,b6,b7⟩,c0,c1,c2,c3⟩:=R0
 have K:=Lib.hid (printTime_any e.start W0 HK.out.kp.tab HK.out.kp.pow (ist_of t1))
 clear hW B0 hK hv h n1 n2 t1 l1 l2 hru k1 k2 k3 k4 m1 m2 m3 m4 a0 a1 a3 a4 b0 b1 b2 b3 b4 b5 b6 b7 c0 c1 c2 c3
 go_enter Tryz.func29,Tryz.ntmps29
 go_upto_region 1 with fail
 rw [← HW.out]
 clear HW
 go_wp2_with fail
 refine K.out.mono ?_
 rintro x w1 ⟨rfl,hb⟩
 have Z1:=Lib.hid (HB.out.trans (hb.mono HB.out.size))
 clear hb K HB HK HV a2 lt0
 go_wp2
 go_ret
 exact vl_one Z1.out _ _
set_option maxRecDepth 100000 in
set_option maxHeartbeats 8000000 in
theorem vals_3 (e:Evt) (s:Evs) (w:World) (hv:EvB w e s) (h:evF e=0) (hK:KeepK w):Calls Tryz.prog 29 #[.agg (ecells e s),.string ⟨#[76,69,78,71,84,72]⟩] w (VlA (vls e 3) w):=by
 obtain ⟨⟨n1,n2⟩,t1,⟨l1,l2⟩,hru,⟨k1,k2,k3,k4⟩,m1,m2,m3,m4⟩:=evF_card h
 have B0:=(Below.refl w.heap.size w).alloc (Nat.le_refl _) (.cells (ecells e s) 32)
 have R0:=EBox.new w e s 32
 obtain ⟨W0,hW⟩:∃ W0,W0=w.alloc (.cells (ecells e s) 32):=⟨_,rfl⟩
 rw [← hW] at B0 R0
 have HW:=Lib.hid hW
 have HB:=Lib.hid B0
 have HK:=Lib.hid (hK.below B0)
 have HV:=Lib.hid (hv.on B0)
 have lt0:=R0.lt
 obtain ⟨⟨a0,a1,a2,a3,a4⟩,⟨b0,b1,b2,b3,b4,b5,b6,b7⟩,c0,c1,c2,c3⟩:=R0
 have K:=Lib.hid (printSpan_any e.len W0 HK.out.kp.pow HK.out.uni (by omega) (by omega))
 clear hW B0 hK hv h n1 n2 t1 l1 l2 hru k1 k2 k3 k4 m1 m2 m3 m4 a0 a1 a2 a4 b0 b1 b2 b3 b4 b5 b6 b7 c0 c1 c2 c3
 go_enter Tryz.func29,Tryz.ntmps29
 go_upto_region 1 with fail
 rw [← HW.out]
 clear HW
 go_wp2_with fail
 refine K.out.mono ?_
 rintro x w1 ⟨rfl,hb⟩
 have Z1:=Lib.hid (HB.out.trans (hb.mono HB.out.size))
 clear hb K HB HK HV a3 lt0
 go_wp2
 go_ret
 exact vl_one Z1.out _ _
set_option maxRecDepth 100000 in
set_option maxHeartbeats 8000000 in
theorem vals_4 (e:Evt) (s:Evs) (w:World) (hv:EvB w e s) (h:evF e=0) (hK:KeepK w):Calls Tryz.prog 29 #[.agg (ecells e s),.string ⟨#[82,85,76,69]⟩] w (VlA (vls e 4) w):=by
 obtain ⟨⟨n1,n2⟩,t1,⟨l1,l2⟩,hru,⟨k1,k2,k3,k4⟩,m1,m2,m3,m4⟩:=evF_card h
 have B0:=(Below.refl w.heap.size w).alloc (Nat.le_refl _) (.cells (ecells e s) 32)
 have R0:=EBox.new w e s 32
 obtain ⟨W0,hW⟩:∃ W0,W0=w.alloc (.cells (ecells e s) 32):=⟨_,rfl⟩
 rw [← hW] at B0 R0
 have HW:=Lib.hid hW
 have HB:=Lib.hid B0
 have HK:=Lib.hid (hK.below B0)
 have HV:=Lib.hid (hv.on B0)
 have lt0:=R0.lt
 obtain ⟨⟨a0,a1,a2,a3,a4⟩,⟨b0,b1,b2,b3,b4,b5,b6,b7⟩,c0,c1,c2,c3⟩:=R0
 have HR:Hid (e.rep=true→rf e.rule=0):=Lib.hid (fun z=>by unfold ruF at hru;rw [if_pos z] at hru;exact hru)
 clear hW B0 hK hv h n1 n2 t1 l1 l2 hru k1 k2 k3 k4 m1 m2 m3 m4 a0 a1 a2 a3 c0 c1 c2 c3
 go_enter Tryz.func29,Tryz.ntmps29
 go_upto_region 1 with fail
 rw [← HW.out]
 clear HW
 rcases hz:e.rep with _ | _
 ·have E:Hid (vls e 4=[]):=Lib.hid (by show (if e.rep=true then [rt e.rule] else [])=[];rw [hz];rfl)
  rw [hz] at a4
  go_wp2
  go_ret
  rw [E.out]
  exact vl_nil HB.out
 ·have E:Hid (vls e 4=[rt e.rule]):=Lib.hid (by show (if e.rep=true then [rt e.rule] else [])=_;rw [hz];rfl)
  have K:=Lib.hid (printRule_any e.rule (rval e s) W0 HV.out.rule HK.out.kp.tab HK.out.kp.pow HK.out.kp.frw HK.out.kp.paw HK.out.kp.wdw (HR.out hz))
  rw [hz] at a4
  clear HR
  go_wp2_with fail
  refine K.out.mono ?_
  rintro x w1 ⟨rfl,hb⟩
  have Z1:=Lib.hid (HB.out.trans (hb.mono HB.out.size))
  clear hb K HB HK HV a4 b0 b1 b2 b3 b4 b5 b6 b7 lt0
  go_wp2
  go_ret
  rw [E.out]
  exact vl_one Z1.out _ _
set_option maxRecDepth 100000 in
set_option maxHeartbeats 8000000 in
theorem vals_5 (e:Evt) (s:Evs) (w:World) (hv:EvB w e s) (h:evF e=0) (hK:KeepK w):Calls Tryz.prog 29 #[.agg (ecells e s),.string ⟨#[77,79,82,69]⟩] w (VlA (vls e 5) w):=by
 obtain ⟨⟨n1,n2⟩,t1,⟨l1,l2⟩,hru,⟨k1,k2,k3,k4⟩,m1,m2,m3,m4⟩:=evF_card h
 have B0:=(Below.refl w.heap.size w).alloc (Nat.le_refl _) (.cells (ecells e s) 32)
 have R0:=EBox.new w e s 32
 obtain ⟨W0,hW⟩:∃ W0,W0=w.alloc (.cells (ecells e s) 32):=⟨_,rfl⟩
 rw [← hW] at B0 R0
 have HW:=Lib.hid hW
 have HB:=Lib.hid B0
 have HK:=Lib.hid (hK.below B0)
 have HV:=Lib.hid (hv.on B0)
 have lt0:=R0.lt
 obtain ⟨⟨a0,a1,a2,a3,a4⟩,⟨b0,b1,b2,b3,b4,b5,b6,b7⟩,c0,c1,c2,c3⟩:=R0
 have K:=Lib.hid (each_int 66 txt (enters_of Tryz.func66 (by kernel_rfl) rfl) s.vo e.more W0 HV.out.2.2.2.2.1 (by omega) (fun x hx W q=>printTime_any x W (HK.out.below q).kp.tab (HK.out.below q).kp.pow (m1 x hx)))
 clear hW B0 hK hv h n1 n2 t1 l1 l2 hru k1 k2 k3 k4 m1 m2 m3 m4 a0 a1 a2 a3 a4 b0 b1 b2 b3 b4 b5 b6 b7 c1 c2 c3
 go_enter Tryz.func29,Tryz.ntmps29
 go_upto_region 1 with fail
 rw [← HW.out]
 clear HW
 go_wp2_with fail
 refine K.out.mono ?_
 rintro x w1 hx
 have Z1:=Lib.hid (hx.far HB.out)
 obtain ⟨u,rfl,_,_,_⟩:=hx
 clear K HB HK HV c0 lt0
 go_wp2
 go_ret
 exact Z1.out
set_option maxRecDepth 100000 in
set_option maxHeartbeats 8000000 in
theorem vals_6 (e:Evt) (s:Evs) (w:World) (hv:EvB w e s) (h:evF e=0) (hK:KeepK w):Calls Tryz.prog 29 #[.agg (ecells e s),.string ⟨#[78,79,84]⟩] w (VlA (vls e 6) w):=by
 obtain ⟨⟨n1,n2⟩,t1,⟨l1,l2⟩,hru,⟨k1,k2,k3,k4⟩,m1,m2,m3,m4⟩:=evF_card h
 have B0:=(Below.refl w.heap.size w).alloc (Nat.le_refl _) (.cells (ecells e s) 32)
 have R0:=EBox.new w e s 32
 obtain ⟨W0,hW⟩:∃ W0,W0=w.alloc (.cells (ecells e s) 32):=⟨_,rfl⟩
 rw [← hW] at B0 R0
 have HW:=Lib.hid hW
 have HB:=Lib.hid B0
 have HK:=Lib.hid (hK.below B0)
 have HV:=Lib.hid (hv.on B0)
 have lt0:=R0.lt
 obtain ⟨⟨a0,a1,a2,a3,a4⟩,⟨b0,b1,b2,b3,b4,b5,b6,b7⟩,c0,c1,c2,c3⟩:=R0
 have K:=Lib.hid (each_int 66 txt (enters_of Tryz.func66 (by kernel_rfl) rfl) s.vn e.nots W0 HV.out.2.2.2.2.2.1 (by omega) (fun x hx W q=>printTime_any x W (HK.out.below q).kp.tab (HK.out.below q).kp.pow (m2 x hx)))
 clear hW B0 hK hv h n1 n2 t1 l1 l2 hru k1 k2 k3 k4 m1 m2 m3 m4 a0 a1 a2 a3 a4 b0 b1 b2 b3 b4 b5 b6 b7 c0 c2 c3
 go_enter Tryz.func29,Tryz.ntmps29
 go_upto_region 1 with fail
 rw [← HW.out]
 clear HW
 go_wp2_with fail
 refine K.out.mono ?_
 rintro x w1 hx
 have Z1:=Lib.hid (hx.far HB.out)
 obtain ⟨u,rfl,_,_,_⟩:=hx
 clear K HB HK HV c1 lt0
 go_wp2
 go_ret
 exact Z1.out
set_option maxRecDepth 100000 in
set_option maxHeartbeats 8000000 in
theorem vals_7 (e:Evt) (s:Evs) (w:World) (hv:EvB w e s) (h:evF e=0) (hK:KeepK w):Calls Tryz.prog 29 #[.agg (ecells e s),.string ⟨#[77,79,86,69]⟩] w (VlA (vls e 7) w):=by
 obtain ⟨⟨n1,n2⟩,t1,⟨l1,l2⟩,hru,⟨k1,k2,k3,k4⟩,m1,m2,m3,m4⟩:=evF_card h
 have B0:=(Below.refl w.heap.size w).alloc (Nat.le_refl _) (.cells (ecells e s) 32)
 have R0:=EBox.new w e s 32
 obtain ⟨W0,hW⟩:∃ W0,W0=w.alloc (.cells (ecells e s) 32):=⟨_,rfl⟩
 rw [← hW] at B0 R0
 have HW:=Lib.hid hW
 have HB:=Lib.hid B0
 have HK:=Lib.hid (hK.below B0)
 have HV:=Lib.hid (hv.on B0)
 have lt0:=R0.lt
 obtain ⟨⟨a0,a1,a2,a3,a4⟩,⟨b0,b1,b2,b3,b4,b5,b6,b7⟩,c0,c1,c2,c3⟩:=R0
 have K:=Lib.hid (each_chg 71 vM (enters_of Tryz.func71 (by kernel_rfl) rfl) s.vc e.chg W0 HV.out.2.2.2.2.2.2.1 (by omega) (fun x hx W q=>printChange_any x W (HK.out.below q).kp.tab (HK.out.below q).kp.pow (m3 x hx)))
 clear hW B0 hK hv h n1 n2 t1 l1 l2 hru k1 k2 k3 k4 m1 m2 m3 m4 a0 a1 a2 a3 a4 b0 b1 b2 b3 b4 b5 b6 b7 c0 c1 c3
 go_enter Tryz.func29,Tryz.ntmps29
 go_upto_region 1 with fail
 rw [← HW.out]
 clear HW
 go_wp2_with fail
 refine K.out.mono ?_
 rintro x w1 hx
 have Z1:=Lib.hid (hx.far HB.out)
 obtain ⟨u,rfl,_,_,_⟩:=hx
 clear K HB HK HV c2 lt0
 go_wp2
 go_ret
 exact Z1.out
set_option maxRecDepth 100000 in
set_option maxHeartbeats 8000000 in
theorem vals_8 (e:Evt) (s:Evs) (w:World) (hv:EvB w e s) (h:evF e=0) (hK:KeepK w):Calls Tryz.prog 29 #[.agg (ecells e s),.string ⟨#[65,76,65,82,77]⟩] w (VlA (vls e 8) w):=by
 obtain ⟨⟨n1,n2⟩,t1,⟨l1,l2⟩,hru,⟨k1,k2,k3,k4⟩,m1,m2,m3,m4⟩:=evF_card h
 have B0:=(Below.refl w.heap.size w).alloc (Nat.le_refl _) (.cells (ecells e s) 32)
 have R0:=EBox.new w e s 32
 obtain ⟨W0,hW⟩:∃ W0,W0=w.alloc (.cells (ecells e s) 32):=⟨_,rfl⟩
 rw [← hW] at B0 R0
 have HW:=Lib.hid hW
 have HB:=Lib.hid B0
 have HK:=Lib.hid (hK.below B0)
 have HV:=Lib.hid (hv.on B0)
 have lt0:=R0.lt
 obtain ⟨⟨a0,a1,a2,a3,a4⟩,⟨b0,b1,b2,b3,b4,b5,b6,b7⟩,c0,c1,c2,c3⟩:=R0
 have K:=Lib.hid (each_alm 73 vA (enters_of Tryz.func73 (by kernel_rfl) rfl) s.va e.alm W0 HV.out.2.2.2.2.2.2.2 (by omega) (fun x hx W q=>printAlarm_any x.1 x.2.1 x.2.2.1 x.2.2.2 W (HK.out.below q).kp.pow (HK.out.below q).uni (m4 x hx)))
 clear hW B0 hK hv h n1 n2 t1 l1 l2 hru k1 k2 k3 k4 m1 m2 m3 m4 a0 a1 a2 a3 a4 b0 b1 b2 b3 b4 b5 b6 b7 c0 c1 c2
 go_enter Tryz.func29,Tryz.ntmps29
 go_upto_region 1 with fail
 rw [← HW.out]
 clear HW
 go_wp2_with fail
 refine K.out.mono ?_
 rintro x w1 hx
 have Z1:=Lib.hid (hx.far HB.out)
 obtain ⟨u,rfl,_,_,_⟩:=hx
 clear K HB HK HV c3 lt0
 go_wp2
 go_ret
 exact Z1.out
theorem vals_any (e:Evt) (s:Evs) (k:Nat) (hk:k<9) (w:World) (hv:EvB w e s) (h:evF e=0) (hK:KeepK w):Calls Tryz.prog 29 #[.agg (ecells e s),.string (tb (ky k))] w (VlA (vls e k) w):=by
 rcases nine hk with rfl | rfl | rfl | rfl | rfl | rfl | rfl | rfl | rfl
 ·exact vals_0 e s w hv h hK
 ·exact vals_1 e s w hv h hK
 ·exact vals_2 e s w hv h hK
 ·exact vals_3 e s w hv h hK
 ·exact vals_4 e s w hv h hK
 ·exact vals_5 e s w hv h hK
 ·exact vals_6 e s w hv h hK
 ·exact vals_7 e s w hv h hK
 ·exact vals_8 e s w hv h hK
end Go.Proofs.YtcadomjkjoiakaaGreatDoor
