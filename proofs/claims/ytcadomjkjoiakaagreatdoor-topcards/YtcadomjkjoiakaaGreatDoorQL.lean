/-
  Texts of our own that serve the card of this claim, joined into one.
-/
import Derived.Test.YtcadomjkjoiakaaGreatDoorCbVal
import Derived.Test.YtcadomjkjoiakaaGreatDoorQY
import Derived.Test.YtcadomjkjoiakaaGreatDoorRA
import Derived.Test.YtcadomjkjoiakaaGreatDoorQW
namespace Go.Proofs.YtcadomjkjoiakaaGreatDoor
open Go.RowKit Cal Txt Ln Cb
def OpA {α:Type} (en:α→Value) (o:Option α) (w:World) (e:Ending) (w':World):Prop:=
 Below w.heap.size w w'∧((∃ x,o=some x∧e=.returned (.tuple #[en x,.nilIface]))∨(o=none∧∃ (x:α) (k:Int),e=.returned (.tuple #[en x,.iface 73 (.int .i64 k)])))
abbrev vI (n:Int):Value:=.int .i64 n
abbrev vS (l:List UInt8):Value:=.string (tb l)
abbrev vC (c:Int × Int):Value:=.agg #[.int .i64 c.1,.int .i64 c.2]
abbrev vAl (x:Int × Bool × Int × Int):Value:=.agg #[.int .i64 x.1,.bool x.2.1,.int .i64 x.2.2.1,.int .i64 x.2.2.2]
theorem OpA.far {α:Type} {en:α→Value} {o:Option α} {w W w':World} {x:Ending} (hb:Below w.heap.size w W) (h:OpA en o W x w'):OpA en o w x w':=⟨hb.trans (h.1.mono hb.size),h.2⟩
theorem time_op (s:ByteArray) (w:World) (hT:Tab w):Calls Tryz.prog 111 #[.string s] w (OpA vI (tmO s.data.toList) w):=by
 by_cases h:frm s.data.toList=true∧good s.data.toList
 ·refine (parse_yes s w hT h.1 h.2).mono ?_
  rintro e w' ⟨rfl,hb⟩
  exact ⟨hb,Or.inl ⟨_,if_pos h,rfl⟩⟩
 ·refine (parse_err s w hT h).mono ?_
  rintro e w' ⟨k,rfl,hb⟩
  exact ⟨hb,Or.inr ⟨if_neg h,_,_,rfl⟩⟩
theorem span_op (s:ByteArray) (w:World) (hU:Uni w) (hs:s.size≤2000000):Calls Tryz.prog 112 #[.string s] w (OpA vI (spO s.data.toList) w):=by
 by_cases h:(spn s.data.toList).2=0
 ·refine (span_nil s w (by unfold maxLen;omega) hU h).mono ?_
  rintro e w' ⟨rfl,hb⟩
  exact ⟨hb,Or.inl ⟨_,if_pos h,rfl⟩⟩
 ·refine (span_err s w (by unfold maxLen;omega) hU h).mono ?_
  rintro e w' ⟨rfl,hb⟩
  exact ⟨hb,Or.inr ⟨if_neg h,_,_,rfl⟩⟩
theorem nu_ok {l:List UInt8} {n:Int} (h:Lib.atoiAll l=.ok n) (q:nt n=l):nuO l=some n:=by unfold nuO;rw [h];exact if_pos q
theorem nu_other {l:List UInt8} {n:Int} (h:Lib.atoiAll l=.ok n) (q:¬ nt n=l):nuO l=none:=by unfold nuO;rw [h];exact if_neg q
set_option maxRecDepth 100000 in
set_option maxHeartbeats 2000000 in
theorem number_op (s:ByteArray) (w:World) (hP:Pow w) (hE:ErS w) (hs:s.size≤2000000):Calls Tryz.prog 175 #[.string s] w (OpA vI (nuO s.data.toList) w):=by
 rcases ho:Lib.atoiAll s.data.toList with v | _ | _
 ·have KA:Hid (Calls Tryz.prog 218 #[.string s] w fun e w'=>e=.returned (.tuple #[.int .i64 v,.nilIface])∧Below w.heap.size w w'):=Lib.hid (by
   refine (Tryz.strconv_Atoi_ok s (by omega) v ho w).mono ?_
   rintro e w' ⟨rfl,hw⟩
   refine ⟨rfl,?_⟩
   rcases hw with rfl | ⟨t,rfl⟩
   ·exact Below.refl _ _
   ·exact Lib.bytesWorld_below w _ t)
  obtain ⟨v0,v1⟩:=Lib.atoiAll_bounds ho
  have HP:=Lib.hid hP
  by_cases hn:nt v=s.data.toList
  ·have N1:=Lib.hid (nu_ok ho hn)
   have e1:((tb (nt v)).toList == s.toList)=true:=by rw [Lib.toList_data,Lib.toList_data,tb_data,hn];simp
   clear hn ho hP
   go_enter Tryz.func175,Tryz.ntmps175
   go_wp2_with fail
   refine KA.out.mono ?_
   rintro e w1 ⟨rfl,hb⟩
   have HP1:=HP.out.below hb
   go_wp2_with fail
   refine (itoa_nt v _ HP1 v0 v1).mono ?_
   rintro e w2 ⟨rfl,hb2⟩
   go_wp2
   go_ret2
   exact ⟨hb.trans (hb2.mono hb.size),Or.inl ⟨v,N1.out,rfl⟩⟩
  ·have N1:=Lib.hid (nu_other ho hn)
   have e1:((tb (nt v)).toList == s.toList)=false:=by rw [Lib.toList_data,Lib.toList_data,tb_data];simpa using hn
   clear hn ho hP
   go_enter Tryz.func175,Tryz.ntmps175
   go_wp2_with fail
   refine KA.out.mono ?_
   rintro e w1 ⟨rfl,hb⟩
   have HP1:=HP.out.below hb
   go_wp2_with fail
   refine (itoa_nt v _ HP1 v0 v1).mono ?_
   rintro e w2 ⟨rfl,hb2⟩
   go_wp2
   go_ret2
   exact ⟨hb.trans (hb2.mono hb.size),Or.inr ⟨N1.out,0,2,rfl⟩⟩
 all_goals
  have N1:Hid (nuO s.data.toList=none):=Lib.hid (by unfold nuO;rw [ho])
  obtain ⟨⟨t1,p1,h1⟩,t2,p2,h2⟩:=hE
 ·have KA:=Lib.hid (Tryz.strconv_Atoi_syntax s (by omega) ho _ w h1 (Or.inr ⟨_,_,rfl⟩))
  clear h1 h2 ho hP
  go_enter Tryz.func175,Tryz.ntmps175
  go_wp2_with fail
  refine KA.out.mono ?_
  rintro e w1 ⟨N,rfl,_,_,hb⟩
  go_wp2
  go_ret2
  exact ⟨hb,Or.inr ⟨N1.out,0,2,rfl⟩⟩
 ·have KA:=Lib.hid (Tryz.strconv_Atoi_range s (by omega) ho _ w h2 (Or.inr ⟨_,_,rfl⟩))
  clear h1 h2 ho hP
  go_enter Tryz.func175,Tryz.ntmps175
  go_wp2_with fail
  refine KA.out.mono ?_
  rintro e w1 ⟨N,rfl,_,_,hb⟩
  go_wp2
  go_ret2
  exact ⟨hb,Or.inr ⟨N1.out,0,2,rfl⟩⟩
set_option maxRecDepth 100000 in
set_option maxHeartbeats 2000000 in
theorem text_op (s:ByteArray) (w:World) (hM:Mrk w) (hs:s.size≤2000000):Calls Tryz.prog 110 #[.string s] w (OpA vS (teO s.data.toList) w):=by
 rcases hz:(s.toList == []) with _ | _
 ·have z:¬ s.data.toList=[]:=fun q=>by rw [ByteArray.toList_eq,q] at hz;cases hz
  have E:Hid (teO s.data.toList=pln s.data.toList):=Lib.hid (if_neg z)
  have K:=Lib.hid (plain_any s w hM (by omega))
  clear z hM
  rcases hp:pln s.data.toList with _ | c
  ·rw [plV_none hp,plF_none hp] at K
   have F2:fault 2=.iface 73 (.int .i64 2):=rfl
   rw [F2] at K
   clear F2
   rw [hp] at E
   clear hp
   go_enter Tryz.func110,Tryz.ntmps110
   go_wp2_with fail
   refine K.out.mono ?_
   rintro e w1 ⟨rfl,hb⟩
   go_wp2
   go_ret2
   exact ⟨hb,Or.inr ⟨E.out,[],2,rfl⟩⟩
  ·rw [plV_some hp,plF_some hp] at K
   rw [show fault 0=.nilIface from rfl] at K
   rw [hp] at E
   clear hp
   go_enter Tryz.func110,Tryz.ntmps110
   go_wp2_with fail
   refine K.out.mono ?_
   rintro e w1 ⟨rfl,hb⟩
   go_wp2
   go_ret2
   exact ⟨hb,Or.inl ⟨c,E.out,rfl⟩⟩
 ·have z:s.data.toList=[]:=by rw [ByteArray.toList_eq] at hz;simpa using hz
  have E:Hid (teO s.data.toList=none):=Lib.hid (if_pos z)
  clear z hM
  go_enter Tryz.func110,Tryz.ntmps110
  go_wp2
  go_ret2
  exact ⟨Below.refl _ _,Or.inr ⟨E.out,[],2,rfl⟩⟩
end Go.Proofs.YtcadomjkjoiakaaGreatDoor
namespace Go.Proofs.YtcadomjkjoiakaaGreatDoor
open Go.RowKit Cal Txt Ln Cb
theorem ctA_list {c:UInt8} {s:ByteArray} (h:at1 c s.data.toList<s.size):(ctA c s).data.toList=s.data.toList.take (at1 c s.data.toList):=by
 have e:ctA c s=s.extract 0 (at1 c s.data.toList):=if_pos h
 rw [e,ByteArray.data_extract,Array.toList_extract,List.extract_eq_take_drop]
 simp
theorem ctB_list {c:UInt8} {s:ByteArray} (h:at1 c s.data.toList<s.size):(ctB c s).data.toList=s.data.toList.drop (at1 c s.data.toList + 1):=by
 have e:ctB c s=s.extract (at1 c s.data.toList + 1) s.size:=if_pos h
 rw [e,ln_drop2]
def Bx2 (W:World) (b:Nat):Prop:=(∃ x y,W.cell? ⟨b,0,none⟩=some (.int .i64 x)∧W.cell? ⟨b,1,none⟩=some (.int .i64 y))∧(W.frozen? ⟨b,0,none⟩=false∧W.frozen? ⟨b,1,none⟩=false)
theorem Bx2.on {W W':World} {b:Nat} (h:Bx2 W b) (q:Below W.heap.size W W'):Bx2 W' b:=by
 obtain ⟨c,f⟩:=bcell q
 obtain ⟨⟨x,y,h1,h2⟩,h3,h4⟩:=h
 have l:=ecell_in h1
 exact ⟨⟨x,y,(c _ _ l).trans h1,(c _ _ l).trans h2⟩,(f _ _ l).trans h3,(f _ _ l).trans h4⟩
theorem chO_no {l:List UInt8} (h:¬ at1 62 l<l.length):chO l=none:=if_neg h
theorem chO_a {l:List UInt8} (h:at1 62 l<l.length) (h1:tmO (l.take (at1 62 l))=none):chO l=none:=by unfold chO;rw [if_pos h,h1]
theorem chO_off {l:List UInt8} {a:Int} (h:at1 62 l<l.length) (h1:tmO (l.take (at1 62 l))=some a) (h2:l.drop (at1 62 l + 1)=[45]):chO l=some (a,0):=by unfold chO;rw [if_pos h,h1];dsimp only;rw [if_pos h2]
theorem chO_b {l:List UInt8} {a:Int} (h:at1 62 l<l.length) (h1:tmO (l.take (at1 62 l))=some a) (h2:¬ l.drop (at1 62 l + 1)=[45]) (h3:tmO (l.drop (at1 62 l + 1))=none):chO l=none:=by unfold chO;rw [if_pos h,h1];dsimp only;rw [if_neg h2,h3]
theorem chO_c {l:List UInt8} {a b:Int} (h:at1 62 l<l.length) (h1:tmO (l.take (at1 62 l))=some a) (h2:¬ l.drop (at1 62 l + 1)=[45]) (h3:tmO (l.drop (at1 62 l + 1))=some b):chO l=some (a,b):=by unfold chO;rw [if_pos h,h1];dsimp only;rw [if_neg h2,h3]
set_option maxRecDepth 100000 in
set_option maxHeartbeats 4000000 in
theorem change_op (s:ByteArray) (w:World) (hT:Tab w) (hs:s.size≤2000000):Calls Tryz.prog 116 #[.string s] w (OpA vC (chO s.data.toList) w):=by
 have b0:Below w.heap.size w (w.alloc (.cells #[.int .i64 0,.int .i64 0] 97)):=(Below.refl _ _).alloc (Nat.le_refl _) _
 have q0:Bx2 (w.alloc (.cells #[.int .i64 0,.int .i64 0] 97)) w.heap.size:=⟨⟨0,0,by simp,by simp⟩,by simp,by simp⟩
 obtain ⟨W0,hW0⟩:∃ W0,W0=w.alloc (.cells #[.int .i64 0,.int .i64 0] 97):=⟨_,rfl⟩
 rw [← hW0] at b0 q0
 have HW:=Lib.hid hW0
 have HB:=Lib.hid b0
 have HR:=Lib.hid q0
 have HT:=Lib.hid (hT.below b0)
 have wl:w.heap.size≤w.heap.size:=Nat.le_refl _
 have KC:=Lib.hid (strcut_any s 62 W0 (by omega))
 by_cases hc:at1 62 s.data.toList<s.size
 case neg=>
  have E:=Lib.hid (chO_no hc)
  have ef:ctF 62 s=false:=decide_eq_false hc
  clear hW0 b0 q0 hT hc
  go_enter Tryz.func116,Tryz.ntmps116
  go_upto_region 1 with fail
  rw [← HW.out]
  clear HW
  go_wp2_with fail
  refine KC.out.mono ?_
  rintro x w1 ⟨rfl,hb⟩
  rw [ef]
  obtain ⟨⟨x0,y0,r0,r1⟩,f0,f1⟩:=HR.out.on hb
  have rl:=ecell_in r0
  have B1:=Lib.hid (HB.out.trans (hb.mono HB.out.size))
  clear hb HB HR HT KC
  go_wp2
  refine bodyPost_ret (v:=.tuple #[.agg #[.int .i64 0,.int .i64 0],.iface 73 (.int .i64 2)]) (by simp [results,Tryz.results116,go_sem,r0,r1]) rfl ⟨?_,Or.inr ⟨E.out,(0,0),2,rfl⟩⟩
  repeat (first | exact B1.out | refine Below.setCell ?_ wl _)
 have ef:ctF 62 s=true:=decide_eq_true hc
 have eA:=ctA_list hc
 have eB:=ctB_list hc
 have zA:(ctA 62 s).size≤2000000:=Nat.le_trans (ctA_le 62 s) hs
 have N1:=Lib.hid (chO_a hc)
 have N2:=Lib.hid (fun a=>chO_off (a:=a) hc)
 have N3:=Lib.hid (fun a=>chO_b (a:=a) hc)
 have N4:=Lib.hid (fun a b=>chO_c (a:=a) (b:=b) hc)
 rw [← eA,← eB] at N2 N3 N4
 rw [← eA] at N1
 clear hW0 b0 q0 hT eA eB hc
 generalize chO s.data.toList=CO at N1 N2 N3 N4 ⊢
 go_enter Tryz.func116,Tryz.ntmps116
 go_upto_region 1 with fail
 rw [← HW.out]
 clear HW
 go_wp2_with fail
 refine KC.out.mono ?_
 rintro x w1 ⟨rfl,hb⟩
 rw [ef]
 replace HB:=Lib.hid (HB.out.trans (hb.mono HB.out.size))
 replace HR:=Lib.hid (HR.out.on hb)
 replace HT:=Lib.hid (HT.out.below hb)
 clear hb
 generalize ctA 62 s=sa at N1 N2 N3 N4 zA ⊢
 generalize ctB 62 s=sb at N1 N2 N3 N4 ⊢
 clear KC
 go_wp2_with fail
 refine (time_op sa _ HT.out).mono ?_
 rintro x w2 ⟨hb,hx⟩
 have B2:=Lib.hid (HB.out.trans (hb.mono HB.out.size))
 have R2:=Lib.hid (HR.out.on hb)
 have T2:=Lib.hid (HT.out.below hb)
 clear hb HB HR HT
 obtain ⟨⟨x0,y0,r0,r1⟩,f0,f1⟩:=R2.out
 have rl:=ecell_in r0
 rcases hx with ⟨a,ha,rfl⟩ | ⟨ha,x,k,rfl⟩
 case inr=>
  have E:=Lib.hid (N1.out ha)
  clear N1 N2 N3 N4 ha
  go_wp2
  refine bodyPost_ret (v:=.tuple #[.agg #[.int .i64 0,.int .i64 0],.iface 73 (.int .i64 k)]) (by simp [results,Tryz.results116,go_sem,r0,r1]) rfl ⟨?_,Or.inr ⟨E.out,(0,0),k,rfl⟩⟩
  repeat (first | exact B2.out | refine Below.setCell ?_ wl _)
 rcases hq:(sb.toList == [45]) with _ | _
 case true=>
  have eq:sb.data.toList=[45]:=by rw [ByteArray.toList_eq] at hq;simpa using hq
  have E:=Lib.hid (N2.out a ha eq)
  clear N1 N2 N3 N4 ha eq
  go_wp2
  refine bodyPost_ret (v:=.tuple #[.agg #[.int .i64 a,.int .i64 0],.nilIface]) (by simp [results,Tryz.results116,go_sem,r0,r1]) rfl ⟨?_,Or.inl ⟨(a,0),E.out,rfl⟩⟩
  repeat (first | exact B2.out | refine Below.setCell ?_ wl _)
 have eq:Hid (¬ sb.data.toList=[45]):=Lib.hid (by rw [ByteArray.toList_eq] at hq;simpa using hq)
 have HA:=Lib.hid ha
 clear ha r0 r1 f0 f1 rl
 go_wp2_with fail
 refine (time_op sb _ T2.out).mono ?_
 rintro x w3 ⟨hb,hx⟩
 have B3:=Lib.hid (B2.out.trans (hb.mono B2.out.size))
 have R3:=Lib.hid (R2.out.on hb)
 clear hb B2 R2 T2
 obtain ⟨⟨x1,y1,r0,r1⟩,f0,f1⟩:=R3.out
 have rl:=ecell_in r0
 rcases hx with ⟨b,hb,rfl⟩ | ⟨hb,x,k,rfl⟩
 ·have E:=Lib.hid (N4.out a b HA.out eq.out hb)
  clear N1 N2 N3 N4 hb
  go_wp2
  refine bodyPost_ret (v:=.tuple #[.agg #[.int .i64 a,.int .i64 b],.nilIface]) (by simp [results,Tryz.results116,go_sem,r0,r1]) rfl ⟨?_,Or.inl ⟨(a,b),E.out,rfl⟩⟩
  repeat (first | exact B3.out | refine Below.setCell ?_ wl _)
 ·have E:=Lib.hid (N3.out a HA.out eq.out hb)
  clear N1 N2 N3 N4 hb
  go_wp2
  refine bodyPost_ret (v:=.tuple #[.agg #[.int .i64 0,.int .i64 0],.iface 73 (.int .i64 k)]) (by simp [results,Tryz.results116,go_sem,r0,r1]) rfl ⟨?_,Or.inr ⟨E.out,(0,0),k,rfl⟩⟩
  repeat (first | exact B3.out | refine Below.setCell ?_ wl _)
end Go.Proofs.YtcadomjkjoiakaaGreatDoor
namespace Go.Proofs.YtcadomjkjoiakaaGreatDoor
open Go.RowKit Cal Txt Ln Cb
def Bx4 (W:World) (b:Nat):Prop:=(∃ x y z t,W.cell? ⟨b,0,none⟩=some x∧W.cell? ⟨b,1,none⟩=some y∧W.cell? ⟨b,2,none⟩=some z∧W.cell? ⟨b,3,none⟩=some t)∧(W.frozen? ⟨b,0,none⟩=false∧W.frozen? ⟨b,1,none⟩=false∧W.frozen? ⟨b,2,none⟩=false∧W.frozen? ⟨b,3,none⟩=false)
theorem Bx4.on {W W':World} {b:Nat} (h:Bx4 W b) (q:Below W.heap.size W W'):Bx4 W' b:=by
 obtain ⟨c,f⟩:=bcell q
 obtain ⟨⟨x,y,z,t,h1,h2,h3,h4⟩,f1,f2,f3,f4⟩:=h
 have l:=ecell_in h1
 exact ⟨⟨x,y,z,t,(c _ _ l).trans h1,(c _ _ l).trans h2,(c _ _ l).trans h3,(c _ _ l).trans h4⟩,(f _ _ l).trans f1,(f _ _ l).trans f2,(f _ _ l).trans f3,(f _ _ l).trans f4⟩
def Wd4 (W:World) (b:Nat) (p0 p1 p2 p3:ByteArray):Prop:=W.cell? ⟨b,0,none⟩=some (.string p0)∧W.cell? ⟨b,1,none⟩=some (.string p1)∧W.cell? ⟨b,2,none⟩=some (.string p2)∧W.cell? ⟨b,3,none⟩=some (.string p3)
theorem Wd4.on {W W':World} {b:Nat} {p0 p1 p2 p3:ByteArray} (h:Wd4 W b p0 p1 p2 p3) (q:Below W.heap.size W W'):Wd4 W' b p0 p1 p2 p3:=by
 obtain ⟨c,_⟩:=bcell q
 have l:=ecell_in h.1
 exact ⟨(c _ _ l).trans h.1,(c _ _ l).trans h.2.1,(c _ _ l).trans h.2.2.1,(c _ _ l).trans h.2.2.2⟩
theorem alO_len {l:List UInt8} (h:¬ (cutAt 32 l).length=4):alO l=none:=by
 unfold alO
 split
 ·rename_i q;rw [q] at h;exact absurd rfl h
 ·rfl
theorem alO_let {l a b c d:List UInt8} (h:cutAt 32 l=[a,b,c,d]) (hb:¬ (b=[115]∨b=[101])):alO l=none:=by unfold alO;rw [h];dsimp only;rw [if_neg hb]
theorem alO_1 {l a b c d:List UInt8} (h:cutAt 32 l=[a,b,c,d]) (hb:b=[115]∨b=[101]) (h1:spO a=none):alO l=none:=by unfold alO;rw [h];dsimp only;rw [if_pos hb,h1]
theorem alO_2 {l a b c d:List UInt8} {o:Int} (h:cutAt 32 l=[a,b,c,d]) (hb:b=[115]∨b=[101]) (h1:spO a=some o) (h2:nuO c=none):alO l=none:=by unfold alO;rw [h];dsimp only;rw [if_pos hb,h1];dsimp only;rw [h2]
theorem alO_3 {l a b c d:List UInt8} {o n:Int} (h:cutAt 32 l=[a,b,c,d]) (hb:b=[115]∨b=[101]) (h1:spO a=some o) (h2:nuO c=some n) (h3:spO d=none):alO l=none:=by unfold alO;rw [h];dsimp only;rw [if_pos hb,h1];dsimp only;rw [h2];dsimp only;rw [h3]
theorem alO_4 {l a b c d:List UInt8} {o n t:Int} (h:cutAt 32 l=[a,b,c,d]) (hb:b=[115]∨b=[101]) (h1:spO a=some o) (h2:nuO c=some n) (h3:spO d=some t):alO l=some (o,decide (b=[101]),n,t):=by unfold alO;rw [h];dsimp only;rw [if_pos hb,h1];dsimp only;rw [h2];dsimp only;rw [h3]
set_option maxRecDepth 100000 in
set_option maxHeartbeats 4000000 in
theorem alarm_op (s:ByteArray) (w:World) (hP:Pow w) (hE:ErS w) (hU:Uni w) (hs:s.size≤2000000):Calls Tryz.prog 118 #[.string s] w (OpA vAl (alO s.data.toList) w):=by
 have b0:Below w.heap.size w (w.alloc (.cells #[.int .i64 0,.bool false,.int .i64 0,.int .i64 0] 50)):=(Below.refl _ _).alloc (Nat.le_refl _) _
 have q0:Bx4 (w.alloc (.cells #[.int .i64 0,.bool false,.int .i64 0,.int .i64 0] 50)) w.heap.size:=⟨⟨_,_,_,_,by simp;rfl,by simp;rfl,by simp;rfl,by simp;rfl⟩,by simp,by simp,by simp,by simp⟩
 obtain ⟨W0,hW0⟩:∃ W0,W0=w.alloc (.cells #[.int .i64 0,.bool false,.int .i64 0,.int .i64 0] 50):=⟨_,rfl⟩
 rw [← hW0] at b0 q0
 have b1:Below W0.heap.size W0 (W0.alloc (.cells ((pcs 32 s).map Value.string).toArray 9)):=(Below.refl _ _).alloc (Nat.le_refl _) _
 obtain ⟨W1,hW1⟩:∃ W1,W1=W0.alloc (.cells ((pcs 32 s).map Value.string).toArray 9):=⟨_,rfl⟩
 rw [← hW1] at b1
 have HW:=Lib.hid hW0
 have HW1:=Lib.hid hW1
 have HB:=Lib.hid (b0.trans (b1.mono b0.size))
 have HR:=Lib.hid (q0.on b1)
 have PP:=Lib.hid ((hP.below b0).below b1)
 have EE:=Lib.hid ((hE.below b0).below b1)
 have UU:=Lib.hid ((hU.below b0).below b1)
 have wl:w.heap.size≤w.heap.size:=Nat.le_refl _
 have PC:=pcs_cut 32 s
 have PZ:=Lib.hid (fun x hx=>pcs_size 32 s x hx)
 have WC:Hid (∀ (j:Nat) x,(pcs 32 s)[j]?=some x→W1.cell? ⟨W0.heap.size,j,none⟩=some (.string x)):=Lib.hid (fun j x hj=>by
  rw [hW1]
  simp only [World.cell?,heap_alloc_new W0]
  simp [hj])
 have KS:=Lib.hid (split_one s 32 W0 (by omega))
 clear hW0 hW1 b0 b1 q0 hP hE hU
 by_cases hl:(pcs 32 s).length=4
 case neg=>
  have E:=Lib.hid (alO_len (l:=s.data.toList) (by rw [← PC,List.length_map];exact hl))
  have hn:(((pcs 32 s).length:Int) != 4)=true:=by rw [bne_iff_ne];omega
  obtain ⟨⟨x0,x1,x2,x3,r0,r1,r2,r3⟩,f0,f1,f2,f3⟩:=HR.out
  have rl:=ecell_in r0
  clear PC WC PZ hl
  go_enter Tryz.func118,Tryz.ntmps118
  go_upto_region 1 with fail
  rw [← HW.out]
  clear HW
  go_wp2_with fail
  refine KS.out.mono ?_
  rintro x w1 ⟨rfl,hw1⟩
  rw [← HW1.out] at hw1
  subst hw1
  clear HW1 KS
  generalize (pcs 32 s).length=N at hn ⊢
  go_wp2
  refine bodyPost_ret (v:=.tuple #[.agg #[.int .i64 0,.bool false,.int .i64 0,.int .i64 0],.iface 73 (.int .i64 2)]) (by simp [results,Tryz.results118,go_sem,r0,r1,r2,r3]) rfl ⟨?_,Or.inr ⟨E.out,(0,false,0,0),2,rfl⟩⟩
  repeat (first | exact HB.out | refine Below.setCell ?_ wl _)
 generalize pcs 32 s=ps at PC PZ WC hl KS HW1
 obtain ⟨p0,p1,p2,p3,rfl⟩:∃ p0 p1 p2 p3,ps=[p0,p1,p2,p3]:=by
  match ps,hl with
  | [p0,p1,p2,p3],_=>exact ⟨p0,p1,p2,p3,rfl⟩
 have hd:Wd4 W1 W0.heap.size p0 p1 p2 p3:=⟨WC.out 0 _ rfl,WC.out 1 _ rfl,WC.out 2 _ rfl,WC.out 3 _ rfl⟩
 have CT:cutAt 32 s.data.toList=[p0.data.toList,p1.data.toList,p2.data.toList,p3.data.toList]:=PC.symm
 have y0:p0.size≤2000000:=Nat.le_trans (PZ.out p0 (by simp)) hs
 have y2:p2.size≤2000000:=Nat.le_trans (PZ.out p2 (by simp)) hs
 have y3:p3.size≤2000000:=Nat.le_trans (PZ.out p3 (by simp)) hs
 have M0:=Lib.hid (alO_let CT)
 have M1:=Lib.hid (alO_1 CT)
 have M2:=Lib.hid (fun o=>alO_2 (o:=o) CT)
 have M3:=Lib.hid (fun o n=>alO_3 (o:=o) (n:=n) CT)
 have M4:=Lib.hid (fun o n t=>alO_4 (o:=o) (n:=n) (t:=t) CT)
 have HD:=Lib.hid hd
 have SB:=Lib.hid (fun (c:UInt8) (h:(p1.toList == [c])=true)=>show p1.data.toList=[c] from by rw [ByteArray.toList_eq] at h;simpa using h)
 have SN:=Lib.hid (fun (c:UInt8) (h:(p1.toList == [c])=false)=>show ¬ p1.data.toList=[c] from by rw [ByteArray.toList_eq] at h;simpa using h)
 clear WC PC PZ hl CT hd
 generalize alO s.data.toList=AO at M0 M1 M2 M3 M4 ⊢
 go_enter Tryz.func118,Tryz.ntmps118
 go_upto_region 1 with fail
 rw [← HW.out]
 clear HW
 go_wp2_with fail
 refine KS.out.mono ?_
 rintro x w1 ⟨rfl,hw1⟩
 rw [← HW1.out] at hw1
 subst hw1
 clear HW1 KS
 rw [show ([p0,p1,p2,p3]:List ByteArray).length=4 from rfl]
 generalize W0.heap.size=g at HD ⊢
 obtain ⟨d0,d1,d2,d3⟩:=HD.out
 have dl:=ecell_in d0
 rcases hS:(p1.toList == [115]) with _ | _
 ·rcases hF:(p1.toList == [101]) with _ | _
  ·-- neither
   have E:=Lib.hid (M0.out (fun z=>z.elim (SN.out _ hS) (SN.out _ hF)))
   obtain ⟨⟨x0,x1,x2,x3,r0,r1,r2,r3⟩,f0,f1,f2,f3⟩:=HR.out
   have rl:=ecell_in r0
   clear M0 M1 M2 M3 M4 SB SN d0 d2 d3
   go_wp2
   refine bodyPost_ret (v:=.tuple #[.agg #[.int .i64 0,.bool false,.int .i64 0,.int .i64 0],.iface 73 (.int .i64 2)]) (by simp [results,Tryz.results118,go_sem,r0,r1,r2,r3]) rfl ⟨?_,Or.inr ⟨E.out,(0,false,0,0),2,rfl⟩⟩
   repeat (first | exact HB.out | refine Below.setCell ?_ wl _)
  ·have HL:Hid (p1.data.toList=[115]∨p1.data.toList=[101]):=Lib.hid (Or.inr (SB.out _ hF))
   have DE:Hid (decide (p1.data.toList=[101])=true):=Lib.hid (decide_eq_true (SB.out _ hF))
   clear M0 SB SN d2 d3
   go_wp2_with fail
   refine (span_op p0 _ UU.out y0).mono ?_
   rintro x w2 ⟨hb,hx⟩
   have B2:=Lib.hid (HB.out.trans (hb.mono HB.out.size))
   have R2:=Lib.hid (HR.out.on hb)
   have D2:=Lib.hid (HD.out.on hb)
   have P2:=Lib.hid (PP.out.below hb)
   have E2:=Lib.hid (EE.out.below hb)
   have U2:=Lib.hid (UU.out.below hb)
   clear hb HB HR HD PP EE UU d0 d1 dl
   rcases hx with ⟨o,ho,rfl⟩ | ⟨ho,x,k,rfl⟩
   case inr=>
    have E:=Lib.hid (M1.out HL.out ho)
    obtain ⟨⟨x0,x1,x2,x3,r0,r1,r2,r3⟩,f0,f1,f2,f3⟩:=R2.out
    have rl:=ecell_in r0
    clear M1 M2 M3 M4 ho
    go_wp2
    refine bodyPost_ret (v:=.tuple #[.agg #[.int .i64 0,.bool false,.int .i64 0,.int .i64 0],.iface 73 (.int .i64 k)]) (by simp [results,Tryz.results118,go_sem,r0,r1,r2,r3]) rfl ⟨?_,Or.inr ⟨E.out,(0,false,0,0),k,rfl⟩⟩
    repeat (first | exact B2.out | refine Below.setCell ?_ wl _)
   have HO:=Lib.hid ho
   obtain ⟨d0,d1,d2,d3⟩:=D2.out
   have dl:=ecell_in d0
   clear ho d0 d1 d3
   go_wp2_with fail
   refine (number_op p2 _ P2.out E2.out y2).mono ?_
   rintro x w3 ⟨hb,hx⟩
   have B3:=Lib.hid (B2.out.trans (hb.mono B2.out.size))
   have R3:=Lib.hid (R2.out.on hb)
   have D3:=Lib.hid (D2.out.on hb)
   have U3:=Lib.hid (U2.out.below hb)
   clear hb B2 R2 D2 P2 E2 U2 d2 dl
   rcases hx with ⟨n,hn,rfl⟩ | ⟨hn,x,k,rfl⟩
   case inr=>
    have E:=Lib.hid (M2.out o HL.out HO.out hn)
    obtain ⟨⟨x0,x1,x2,x3,r0,r1,r2,r3⟩,f0,f1,f2,f3⟩:=R3.out
    have rl:=ecell_in r0
    clear M1 M2 M3 M4 hn
    go_wp2
    refine bodyPost_ret (v:=.tuple #[.agg #[.int .i64 0,.bool false,.int .i64 0,.int .i64 0],.iface 73 (.int .i64 k)]) (by simp [results,Tryz.results118,go_sem,r0,r1,r2,r3]) rfl ⟨?_,Or.inr ⟨E.out,(0,false,0,0),k,rfl⟩⟩
    repeat (first | exact B3.out | refine Below.setCell ?_ wl _)
   have HN:=Lib.hid hn
   obtain ⟨d0,d1,d2,d3⟩:=D3.out
   have dl:=ecell_in d0
   clear hn d0 d1 d2
   go_wp2_with fail
   refine (span_op p3 _ U3.out y3).mono ?_
   rintro x w4 ⟨hb,hx⟩
   have B4:=Lib.hid (B3.out.trans (hb.mono B3.out.size))
   have R4:=Lib.hid (R3.out.on hb)
   have D4:=Lib.hid (D3.out.on hb)
   clear hb B3 R3 D3 U3 d3 dl
   obtain ⟨⟨x0,x1,x2,x3,r0,r1,r2,r3⟩,f0,f1,f2,f3⟩:=R4.out
   have rl:=ecell_in r0
   rcases hx with ⟨t,ht,rfl⟩ | ⟨ht,x,k,rfl⟩
   ·have E:=Lib.hid (M4.out o n t HL.out HO.out HN.out ht)
    rw [DE.out] at E
    obtain ⟨d0,d1,d2,d3⟩:=D4.out
    have dl:=ecell_in d0
    clear M1 M2 M3 M4 ht d0 d2 d3
    go_wp2
    refine bodyPost_ret (v:=.tuple #[.agg #[.int .i64 o,.bool true,.int .i64 n,.int .i64 t],.nilIface]) (by simp [results,Tryz.results118,go_sem,r0,r1,r2,r3]) rfl ⟨?_,Or.inl ⟨(o,true,n,t),E.out,rfl⟩⟩
    repeat (first | exact B4.out | refine Below.setCell ?_ wl _)
   ·have E:=Lib.hid (M3.out o n HL.out HO.out HN.out ht)
    clear M1 M2 M3 M4 ht
    go_wp2
    refine bodyPost_ret (v:=.tuple #[.agg #[.int .i64 0,.bool false,.int .i64 0,.int .i64 0],.iface 73 (.int .i64 k)]) (by simp [results,Tryz.results118,go_sem,r0,r1,r2,r3]) rfl ⟨?_,Or.inr ⟨E.out,(0,false,0,0),k,rfl⟩⟩
    repeat (first | exact B4.out | refine Below.setCell ?_ wl _)
 ·have hF:(p1.toList == [101])=false:=by
   have:=SB.out _ hS
   rw [ByteArray.toList_eq,this];decide
  have HL:Hid (p1.data.toList=[115]∨p1.data.toList=[101]):=Lib.hid (Or.inl (SB.out _ hS))
  have DE:Hid (decide (p1.data.toList=[101])=false):=Lib.hid (decide_eq_false (fun z=>by have:=SB.out _ hS;rw [this] at z;exact absurd z (by decide)))
  clear M0 SB SN d2 d3
  go_wp2_with fail
  refine (span_op p0 _ UU.out y0).mono ?_
  rintro x w2 ⟨hb,hx⟩
  have B2:=Lib.hid (HB.out.trans (hb.mono HB.out.size))
  have R2:=Lib.hid (HR.out.on hb)
  have D2:=Lib.hid (HD.out.on hb)
  have P2:=Lib.hid (PP.out.below hb)
  have E2:=Lib.hid (EE.out.below hb)
  have U2:=Lib.hid (UU.out.below hb)
  clear hb HB HR HD PP EE UU d0 d1 dl
  rcases hx with ⟨o,ho,rfl⟩ | ⟨ho,x,k,rfl⟩
  case inr=>
   have E:=Lib.hid (M1.out HL.out ho)
   obtain ⟨⟨x0,x1,x2,x3,r0,r1,r2,r3⟩,f0,f1,f2,f3⟩:=R2.out
   have rl:=ecell_in r0
   clear M1 M2 M3 M4 ho
   go_wp2
   refine bodyPost_ret (v:=.tuple #[.agg #[.int .i64 0,.bool false,.int .i64 0,.int .i64 0],.iface 73 (.int .i64 k)]) (by simp [results,Tryz.results118,go_sem,r0,r1,r2,r3]) rfl ⟨?_,Or.inr ⟨E.out,(0,false,0,0),k,rfl⟩⟩
   repeat (first | exact B2.out | refine Below.setCell ?_ wl _)
  have HO:=Lib.hid ho
  obtain ⟨d0,d1,d2,d3⟩:=D2.out
  have dl:=ecell_in d0
  clear ho d0 d1 d3
  go_wp2_with fail
  refine (number_op p2 _ P2.out E2.out y2).mono ?_
  rintro x w3 ⟨hb,hx⟩
  have B3:=Lib.hid (B2.out.trans (hb.mono B2.out.size))
  have R3:=Lib.hid (R2.out.on hb)
  have D3:=Lib.hid (D2.out.on hb)
  have U3:=Lib.hid (U2.out.below hb)
  clear hb B2 R2 D2 P2 E2 U2 d2 dl
  rcases hx with ⟨n,hn,rfl⟩ | ⟨hn,x,k,rfl⟩
  case inr=>
   have E:=Lib.hid (M2.out o HL.out HO.out hn)
   obtain ⟨⟨x0,x1,x2,x3,r0,r1,r2,r3⟩,f0,f1,f2,f3⟩:=R3.out
   have rl:=ecell_in r0
   clear M1 M2 M3 M4 hn
   go_wp2
   refine bodyPost_ret (v:=.tuple #[.agg #[.int .i64 0,.bool false,.int .i64 0,.int .i64 0],.iface 73 (.int .i64 k)]) (by simp [results,Tryz.results118,go_sem,r0,r1,r2,r3]) rfl ⟨?_,Or.inr ⟨E.out,(0,false,0,0),k,rfl⟩⟩
   repeat (first | exact B3.out | refine Below.setCell ?_ wl _)
  have HN:=Lib.hid hn
  obtain ⟨d0,d1,d2,d3⟩:=D3.out
  have dl:=ecell_in d0
  clear hn d0 d1 d2
  go_wp2_with fail
  refine (span_op p3 _ U3.out y3).mono ?_
  rintro x w4 ⟨hb,hx⟩
  have B4:=Lib.hid (B3.out.trans (hb.mono B3.out.size))
  have R4:=Lib.hid (R3.out.on hb)
  have D4:=Lib.hid (D3.out.on hb)
  clear hb B3 R3 D3 U3 d3 dl
  obtain ⟨⟨x0,x1,x2,x3,r0,r1,r2,r3⟩,f0,f1,f2,f3⟩:=R4.out
  have rl:=ecell_in r0
  rcases hx with ⟨t,ht,rfl⟩ | ⟨ht,x,k,rfl⟩
  ·have E:=Lib.hid (M4.out o n t HL.out HO.out HN.out ht)
   rw [DE.out] at E
   obtain ⟨d0,d1,d2,d3⟩:=D4.out
   have dl:=ecell_in d0
   clear M1 M2 M3 M4 ht d0 d2 d3
   go_wp2
   refine bodyPost_ret (v:=.tuple #[.agg #[.int .i64 o,.bool false,.int .i64 n,.int .i64 t],.nilIface]) (by simp [results,Tryz.results118,go_sem,r0,r1,r2,r3]) rfl ⟨?_,Or.inl ⟨(o,false,n,t),E.out,rfl⟩⟩
   repeat (first | exact B4.out | refine Below.setCell ?_ wl _)
  ·have E:=Lib.hid (M3.out o n HL.out HO.out HN.out ht)
   clear M1 M2 M3 M4 ht
   go_wp2
   refine bodyPost_ret (v:=.tuple #[.agg #[.int .i64 0,.bool false,.int .i64 0,.int .i64 0],.iface 73 (.int .i64 k)]) (by simp [results,Tryz.results118,go_sem,r0,r1,r2,r3]) rfl ⟨?_,Or.inr ⟨E.out,(0,false,0,0),k,rfl⟩⟩
   repeat (first | exact B4.out | refine Below.setCell ?_ wl _)
end Go.Proofs.YtcadomjkjoiakaaGreatDoor
