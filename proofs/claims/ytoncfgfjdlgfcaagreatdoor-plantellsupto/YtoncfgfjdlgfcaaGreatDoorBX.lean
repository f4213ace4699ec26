/-
  Texts of our own that serve the card of this claim, joined into one.
-/
import Derived.Test.YtoncfgfjdlgfcaaGreatDoorBO
import Derived.BigQuiet
import Derived.Test.YtoncfgfjdlgfcaaGreatDoorEvMov
import Derived.Test.YtoncfgfjdlgfcaaGreatDoorBV
import Derived.Test.YtoncfgfjdlgfcaaGreatDoorRF
namespace Go.Proofs.YtoncfgfjdlgfcaaGreatDoor
open Go.RowKit Cal Txt
theorem refTime_any (t:Int) (w:World) :
 Calls Tryz.prog 16 #[.int .i64 t] w fun e w'=>e=.returned (.bool (ist t))∧w'=w:=by
 by_cases h:1≤t
 all_goals
  go_enter Tryz.func16,Tryz.ntmps16
  go_wp2
  go_ret
  exact ⟨ret_bool (by unfold ist;rw [Bool.eq_iff_iff];simp;omega),rfl⟩
set_option maxHeartbeats 1000000 in
theorem refAlarm_any (o:Int) (b:Bool) (r t:Int) (w:World) :
 Calls Tryz.prog 54 #[.agg #[.int .i64 o,.bool b,.int .i64 r,.int .i64 t]] w fun e w'=>e=.returned (.int .i64 (alF (o,b,r,t)))∧Below w.heap.size w w':=by
 have HB:=Lib.hid ((Below.refl w.heap.size w).alloc (Nat.le_refl _) (.cells #[.int .i64 o,.bool b,.int .i64 r,.int .i64 t] 115))
 have N0:Hid (((-100000≤o∧o≤100000)∧(0≤r∧r≤5)∧((r=0∧t=0)∨(¬ r=0∧1≤t∧t≤10000)))→alF (o,b,r,t)=0):=Lib.hid (fun h=>if_pos h)
 have N1:Hid (¬ ((-100000≤o∧o≤100000)∧(0≤r∧r≤5)∧((r=0∧t=0)∨(¬ r=0∧1≤t∧t≤10000)))→alF (o,b,r,t)=1):=Lib.hid (fun h=>if_neg h)
 generalize alF (o,b,r,t)=F at N0 N1 ⊢
 go_enter Tryz.func54,Tryz.ntmps54
 by_cases h1:o < -100000
 ·have E:=Lib.hid (N1.out (by omega))
  go_wp2
  go_ret
  exact ⟨ret_int E.out.symm,HB.out⟩
 by_cases h2:100000<o
 ·have E:=Lib.hid (N1.out (by omega))
  go_wp2
  go_ret
  exact ⟨ret_int E.out.symm,HB.out⟩
 by_cases h3:r<0
 ·have E:=Lib.hid (N1.out (by omega))
  go_wp2
  go_ret
  exact ⟨ret_int E.out.symm,HB.out⟩
 by_cases h4:5<r
 ·have E:=Lib.hid (N1.out (by omega))
  go_wp2
  go_ret
  exact ⟨ret_int E.out.symm,HB.out⟩
 by_cases h5:0<r
 ·have e0:(r == 0)=false:=by simp;omega
  by_cases h6:t<1
  ·have E:=Lib.hid (N1.out (by omega))
   go_wp2
   go_ret
   exact ⟨ret_int E.out.symm,HB.out⟩
  by_cases h7:10000<t
  ·have E:=Lib.hid (N1.out (by omega))
   go_wp2
   go_ret
   exact ⟨ret_int E.out.symm,HB.out⟩
  have E:=Lib.hid (N0.out (by omega))
  go_wp2
  go_ret
  exact ⟨ret_int E.out.symm,HB.out⟩
 ·obtain rfl:r=0:=by omega
  rcases h6:(t != 0) with _ | _
  ·have E:=Lib.hid (N0.out (by simp at h6;omega))
   go_wp2
   go_ret
   exact ⟨ret_int E.out.symm,HB.out⟩
  ·have E:=Lib.hid (N1.out (by simp at h6;omega))
   go_wp2
   go_ret
   exact ⟨ret_int E.out.symm,HB.out⟩
set_option maxHeartbeats 1000000 in
theorem refTimes_any (v:Value) (l:List Int) (w:World) (hv:Ints w v l) (hl:l.length≤1000000) :
 Calls Tryz.prog 52 #[v] w fun e w'=>e=.returned (.bool (l.all ist))∧w'=w:=by
 obtain ⟨a,cap,rfl,hc⟩:=hv
 have HC:=Lib.hid hc
 clear hc
 go_enter Tryz.func52,Tryz.ntmps52
 go_wp2
 go_loop [3] (fun i=>∃ k:Nat,k≤l.length∧i=.int .i64 k∧(l.take k).all ist=true) (fun i=>l.length - (intOf i).toNat)
 case atStart=>exact ⟨0,Nat.zero_le _,rfl,rfl⟩
 case round=>
  obtain ⟨k,hk,rfl,hF⟩:=hrel
  have HF:=Lib.hid hF
  clear hF
  by_cases hlt:k<l.length
  ·rcases HC.out with hc | ⟨b,off,rfl,hc⟩
   ·rw [hc] at hlt;simp at hlt
   have ck:=hc k hlt
   obtain ⟨x,hx⟩:∃ x,x=l.getD k 0:=⟨_,rfl⟩
   rw [← hx] at ck
   have HX:=Lib.hid hx
   clear hx hc
   rcases hp:ist x with _ | _
   ·have N0:Hid (l.all ist=false):=Lib.hid (all_not ist l k 0 hlt (by rw [← HX.out];exact hp))
    go_wp2_with (go_at_call 16;refine (refTime_any _ _).mono ?_;rintro e w' ⟨rfl,rfl⟩;rw [hp])
    go_ret
    exact ⟨ret_bool N0.out.symm,rfl⟩
   ·have N1:Hid ((l.take (k + 1)).all ist=true):=Lib.hid (all_take ist l k 0 hlt HF.out (by rw [← HX.out];exact hp))
    go_wp2_with (go_at_call 16;refine (refTime_any _ _).mono ?_;rintro e w' ⟨rfl,rfl⟩;rw [hp])
    go_round
    case rel=>exact ⟨k + 1,by omega,by go_num,N1.out⟩
    case measure=>simp [intOf];omega
  ·have N1:Hid (l.all ist=true):=Lib.hid (all_end ist l k hlt HF.out)
   go_wp2
   go_ret
   exact ⟨ret_bool N1.out.symm,rfl⟩
end Go.Proofs.YtoncfgfjdlgfcaaGreatDoor
namespace Go.Proofs.YtoncfgfjdlgfcaaGreatDoor
open Go.RowKit Cal Txt
def seF (fr t:Int):Int:=if strB fr t=true then 0 else 1
theorem refStretch_any (fr t:Int) (w:World) :
 Calls Tryz.prog 25 #[.int .i64 fr,.int .i64 t] w fun e w'=>e=.returned (.int .i64 (seF fr t))∧w'=w:=by
 have EH:Hid (strB fr t=(((ist fr && ist t) && decide (fr≤t)) && decide (t - fr≤1000000))):=Lib.hid rfl
 have N0:Hid (strB fr t=true→seF fr t=0):=Lib.hid (fun h=>if_pos h)
 have N1:Hid (strB fr t=false→seF fr t=1):=Lib.hid (fun h=>if_neg (by rw [h];decide))
 generalize seF fr t=F at N0 N1 ⊢
 go_enter Tryz.func25,Tryz.ntmps25
 rcases h1:ist fr with _ | _
 ·have E:=Lib.hid (N1.out (by rw [EH.out,h1];rfl))
  go_wp2_with (go_at_call 16;refine (refTime_any _ _).mono ?_;rintro e w' ⟨rfl,rfl⟩;first | rw [h1] | skip)
  go_ret
  exact ⟨ret_int E.out.symm,rfl⟩
 rcases h2:ist t with _ | _
 ·have E:=Lib.hid (N1.out (by rw [EH.out,h1,h2];rfl))
  go_wp2_with (go_at_call 16;refine (refTime_any _ _).mono ?_;rintro e w' ⟨rfl,rfl⟩;first | rw [h1] | rw [h2])
  go_ret
  exact ⟨ret_int E.out.symm,rfl⟩
 obtain ⟨f1,f2⟩:=of_decide_eq_true h1
 obtain ⟨t1,t2⟩:=of_decide_eq_true h2
 by_cases h3:fr≤t
 case neg=>
  have E:=Lib.hid (N1.out (by rw [EH.out,h1,h2,decide_eq_false h3];rfl))
  go_wp2_with (go_at_call 16;refine (refTime_any _ _).mono ?_;rintro e w' ⟨rfl,rfl⟩;first | rw [h1] | rw [h2])
  go_ret
  exact ⟨ret_int E.out.symm,rfl⟩
 by_cases h4:t - fr≤1000000
 case neg=>
  have E:=Lib.hid (N1.out (by rw [EH.out,h1,h2,decide_eq_true h3,decide_eq_false h4];rfl))
  go_wp2_with (go_at_call 16;refine (refTime_any _ _).mono ?_;rintro e w' ⟨rfl,rfl⟩;first | rw [h1] | rw [h2])
  go_ret
  exact ⟨ret_int E.out.symm,rfl⟩
 have E:=Lib.hid (N0.out (by rw [EH.out,h1,h2,decide_eq_true h3,decide_eq_true h4];rfl))
 go_wp2_with (go_at_call 16;refine (refTime_any _ _).mono ?_;rintro e w' ⟨rfl,rfl⟩;first | rw [h1] | rw [h2])
 go_ret
 exact ⟨ret_int E.out.symm,rfl⟩
end Go.Proofs.YtoncfgfjdlgfcaaGreatDoor
namespace Go.Proofs.YtoncfgfjdlgfcaaGreatDoor
open Go.RowKit Cal Txt
theorem nmB_short {s:ByteArray} (h:s.size=0∨8<s.size):nmB s=false:=by
 unfold nmB;rw [decide_eq_false (by omega)];rfl
theorem nmB_long {s:ByteArray} (h1:1≤s.size) (h2:s.size≤8):nmB s=s.data.toList.all letB:=by
 unfold nmB;rw [decide_eq_true ⟨h1,h2⟩];rfl
theorem byte_at (s:ByteArray) (k:Nat) (h:k<s.size):s.data.toList.getD k 0=s[k]:=by
 rw [List.getD_eq_getElem?_getD,List.getElem?_eq_getElem (by simpa using h)];rfl
set_option maxHeartbeats 1000000 in
theorem refName_any (s:ByteArray) (w:World) :
 Calls Tryz.prog 50 #[.string s] w fun e w'=>e=.returned (.bool (nmB s))∧w'=w:=by
 have S0:=Lib.hid (@nmB_short s)
 have S1:=Lib.hid (@nmB_long s)
 generalize nmB s=R at S0 S1 ⊢
 by_cases h0:s.size=0
 ·have E:=Lib.hid (S0.out (Or.inl h0))
  have es:s=⟨#[]⟩:=by
   apply ByteArray.ext
   exact Array.eq_empty_of_size_eq_zero h0
  subst es
  clear h0
  go_enter Tryz.func50,Tryz.ntmps50
  go_wp2
  go_ret
  exact ⟨ret_bool E.out.symm,rfl⟩
 have ne:s.toList.isEmpty=false:=by
  rw [ByteArray.toList_eq]
  rcases q:s.data.toList with _ | ⟨a,l⟩
  ·exact absurd (by rw [← size_len,q];rfl) h0
  ·rfl
 by_cases h8:8<(s.size:Int)
 ·have E:=Lib.hid (S0.out (Or.inr (by omega)))
  go_enter Tryz.func50,Tryz.ntmps50
  go_wp2
  go_ret
  exact ⟨ret_bool E.out.symm,rfl⟩
 have E:=Lib.hid (S1.out (by omega) (by omega))
 go_enter Tryz.func50,Tryz.ntmps50
 go_wp2_with fail
 go_loop [3] (fun i=>∃ k:Nat,k≤s.size∧i=.int .i64 k∧(s.data.toList.take k).all letB=true) (fun i=>s.size - (intOf i).toNat)
 case atStart=>exact ⟨0,Nat.zero_le _,rfl,rfl⟩
 case round=>
  obtain ⟨k,hk,rfl,hF⟩:=hrel
  have HF:=Lib.hid hF
  clear hF
  by_cases hlt:k<s.size
  ·have LB:Hid (letB s[k]=decide (97≤s[k].toNat∧s[k].toNat≤122)):=Lib.hid rfl
   have AN:=Lib.hid (fun (q:letB s[k]=false)=>all_not letB s.data.toList k 0 (by rw [size_len];exact hlt) (by rw [byte_at s k hlt];exact q))
   have AT:=Lib.hid (fun (q:letB s[k]=true)=>all_take letB s.data.toList k 0 (by rw [size_len];exact hlt) HF.out (by rw [byte_at s k hlt];exact q))
   by_cases c1:(s[k].toNat:Int)<97
   ·have N0:=Lib.hid (AN.out (by rw [LB.out];exact decide_eq_false (by omega)))
    clear AN AT LB
    go_wp2
    go_ret
    exact ⟨ret_bool (by rw [E.out,N0.out]),rfl⟩
   by_cases c2:122<(s[k].toNat:Int)
   ·have N0:=Lib.hid (AN.out (by rw [LB.out];exact decide_eq_false (by omega)))
    clear AN AT LB
    go_wp2
    go_ret
    exact ⟨ret_bool (by rw [E.out,N0.out]),rfl⟩
   have N1:=Lib.hid (AT.out (by rw [LB.out];exact decide_eq_true (by omega)))
   clear AN AT LB
   go_wp2
   go_round
   case rel=>exact ⟨k + 1,by omega,by go_num,N1.out⟩
   case measure=>simp [intOf];omega
  ·have N1:Hid (s.data.toList.all letB=true):=Lib.hid (all_end letB s.data.toList k (by rw [size_len];exact hlt) HF.out)
   go_wp2
   go_ret
   exact ⟨ret_bool (by rw [E.out,N1.out]),rfl⟩
end Go.Proofs.YtoncfgfjdlgfcaaGreatDoor
namespace Go.Proofs.YtoncfgfjdlgfcaaGreatDoor
open Go.RowKit Cal Txt
def onB (l:List (Int × Int)) (x:Int):Bool:=match chOf l x with | some n=>n != 0 | none=>true
set_option maxRecDepth 100000 in
set_option maxHeartbeats 2000000 in
theorem refReally_any (e:Evt) (s:Evs) (x:Int) (w:World) (hv:Nths w s.vc e.chg) (hl:e.chg.length≤1000000) :
 Calls Tryz.prog 59 #[.agg (ecells e s),.int .i64 x] w fun y w'=>y=.returned (.tuple #[.int .i64 ((chOf e.chg x).getD x),.bool (onB e.chg x)])∧Below w.heap.size w w':=by
 have B0:=(Below.refl w.heap.size w).alloc (Nat.le_refl _) (.cells (ecells e s) 33)
 have hv2:=hv.on B0
 have R0:=EBox.new w e s 33
 obtain ⟨W0,hW⟩:∃ W0,W0=w.alloc (.cells (ecells e s) 33):=⟨_,rfl⟩
 rw [← hW] at B0 hv2 R0
 obtain ⟨ac,cc,ec,hc⟩:=hv2
 have c15:W0.cell? ⟨w.heap.size,15,none⟩=some (.slice ac e.chg.length cc):=by rw [← ec];exact R0.2.2.2.2.1
 have rl:=R0.lt
 have HB:=Lib.hid B0
 have HC:=Lib.hid hc
 have HW:=Lib.hid hW
 have ON:Hid (onB e.chg x=(match chOf e.chg x with | some n=>n != 0 | none=>true)):=Lib.hid rfl
 have CN:=Lib.hid (@chOf_none e.chg x)
 have CS:=Lib.hid (fun k=>@chOf_some e.chg x k)
 generalize onB e.chg x=O at ON ⊢
 generalize chOf e.chg x=C at ON CN CS ⊢
 clear hv B0 R0 hc hW ec
 go_enter Tryz.func59,Tryz.ntmps59
 go_upto_region 1 with fail
 rw [← HW.out]
 clear HW
 go_wp2_with fail
 go_loop [6] (fun i=>∃ k:Nat,k≤e.chg.length∧i=.int .i64 k∧∀ i,i<k→¬ (e.chg.getD i (0,0)).1=x) (fun i=>e.chg.length - (intOf i).toNat)
 case atStart=>exact ⟨0,Nat.zero_le _,rfl,fun i hi=>absurd hi (Nat.not_lt_zero _)⟩
 case round=>
  obtain ⟨k,hk,rfl,hF⟩:=hrel
  have HF:=Lib.hid hF
  clear hF
  by_cases hlt:k<e.chg.length
  ·rcases HC.out with hc | ⟨g,off,rfl,hc⟩
   ·rw [hc] at hlt;simp at hlt
   obtain ⟨k1,k2⟩:=hc k hlt
   have CK:=Lib.hid (fun q=>CS.out k hlt q HF.out)
   have HN:=Lib.hid (fun (q:¬ (e.chg.getD k (0,0)).1=x)=>show ∀ i,i<k + 1→¬ (e.chg.getD i (0,0)).1=x from fun i hi=>by
    rcases Nat.lt_or_ge i k with z | z
    ·exact HF.out i z
    ·rw [show i=k by omega];exact q)
   generalize (e.chg.getD k (0,0)).1=a at k1 CK HN
   generalize (e.chg.getD k (0,0)).2=n at k2 CK
   clear hc
   rcases hq:(a == x) with _ | _
   ·have N1:=Lib.hid (HN.out (by simpa using hq))
    clear CK HN
    go_wp2
    go_round
    case rel=>exact ⟨k + 1,by omega,by go_num,N1.out⟩
    case measure=>simp [intOf];omega
   ·have E:=Lib.hid (CK.out (by simpa using hq))
    clear CK HN
    go_wp2_with fail
    go_quiet (fail)
    go_wp2
    go_ret2
    exact ⟨by rw [ON.out,E.out];rfl,below_drewN HB.out _⟩
  ·have E:=Lib.hid (CN.out (fun i hi=>HF.out i (by omega)))
   go_wp2
   go_ret2
   exact ⟨by rw [ON.out,E.out];rfl,HB.out⟩
end Go.Proofs.YtoncfgfjdlgfcaaGreatDoor
namespace Go.Proofs.YtoncfgfjdlgfcaaGreatDoor
open Go.RowKit Cal Txt
theorem fst_getD (l:List (Int × Int)) (i:Nat):(l.map (·.1)).getD i 0=(l.getD i (0,0)).1:=by
 rw [List.getD_eq_getElem?_getD,List.getD_eq_getElem?_getD,List.getElem?_map]
 cases l[i]? <;> rfl
theorem criB_eq (l:List (Int × Int)):criB l=risB (l.map (·.1)):=by
 unfold criB risB
 rw [List.length_map]
 congr 1
 funext i
 rw [fst_getD,fst_getD]
theorem fst_snoc {l:List (Int × Int)} {k:Nat} (h:k<l.length):(l.take (k + 1)).map (·.1)=(l.take k).map (·.1)++[(l.getD k (0,0)).1]:=by
 rw [List.take_succ_eq_append_getElem h,List.map_append,List.getD_eq_getElem?_getD,List.getElem?_eq_getElem h]
 rfl
def ats (k:Nat) (l:List (Int × Int)):List Int:=(l.take k).map (·.1)
theorem ats_snoc {l:List (Int × Int)} {k:Nat} (h:k<l.length):ats (k + 1) l=ats k l++[(l.getD k (0,0)).1]:=fst_snoc h
theorem ats_end (l:List (Int × Int)):ats l.length l=l.map (·.1):=by unfold ats;rw [List.take_length]
theorem wnm {B:Nat} {a w:World} (_:Below B a w):∃ x,x=w:=⟨w,rfl⟩
abbrev rcl (e:Evt) (s:Evs):Array Value:=#[.int .i64 e.rule.freq,.int .i64 e.rule.every,.int .i64 e.rule.count,.int .i64 e.rule.till,s.vm,s.vd,s.vw,s.vp]
theorem EBox.rrange {W:World} {b:Nat} {e:Evt} {s:Evs} (h:EBox W b e s):W.rangeAt b 5 (rcl e s).toList:=fun j v hv=>by
 have hj:j<8:=(List.getElem?_eq_some_iff.1 hv).1
 have q:=h.range (5 + j) v (by
  rcases (by omega:j=0∨j=1∨j=2∨j=3∨j=4∨j=5∨j=6∨j=7) with rfl | rfl | rfl | rfl | rfl | rfl | rfl | rfl <;> exact hv)
 rwa [Nat.zero_add] at q
theorem ru_load {ops:Array Oper} {rest:List Oper} {op:Oper} {a:Act} {w:World} {Q:Exit→Act→World→Prop} (hgd:op.guard=none) (x:Operand) (ho:op.op=.load 29 x)
 (b o:Nat) (e:Evt) (s:Evs) (hx:a.eval x=.pointer (some ⟨b,o,none⟩)) (hE:w.rangeAt b o (rcl e s).toList) (h:wpList Tryz.prog ops Q rest (a.put op.dst (rval e s)) w):wpList Tryz.prog ops Q (op :: rest) a w:=
 wpList_load_mid hgd 29 x ho b o hx (rcl e s).toList _ hE Tryz.underlying29 rfl (by kernel_rfl) h
def RCl (W:World) (b:Nat) (e:Evt) (s:Evs):Prop:=W.rangeAt b 0 (rcl e s).toList
theorem RCl.on {W W':World} {b:Nat} {e:Evt} {s:Evs} (h:RCl W b e s) (q:Below W.heap.size W W'):RCl W' b e s:=fun j v hv=>by
 have h0:=h 0 _ rfl
 have l:b<W.heap.size:=ecell_in h0
 exact (q.cell (p:=⟨b,0 + j,none⟩) l).trans (h j v hv)
theorem ru_store {ops:Array Oper} {rest:List Oper} {op:Oper} {a:Act} {W:World} {Q:Exit→Act→World→Prop} (hgd:op.guard=none) (x y:Operand) (ho:op.op=.store 29 x y) (hd:op.dst=none)
 (b:Nat) (C:Array Value) (t:TypeId) (hC:C.size=8) (hb:W.heap.size=b) (e:Evt) (s:Evs) (hs:(rcl e s).all (·.oneCell')=true) (hx:a.eval x=.pointer (some ⟨b,0,none⟩)) (hy:a.eval y=rval e s)
 (h:∀ W',RCl W' b e s→Below W.heap.size W W'→b<W'.heap.size→wpList Tryz.prog ops Q rest a W'):wpList Tryz.prog ops Q (op :: rest) a (W.alloc (.cells C t)):=by
 subst hb
 have ht:(W.alloc (.cells C t)).there W.heap.size 0 (rcl e s).size:=by have:=there_newC W C t;rw [hC] at this;exact this
 have hr:RCl ((W.alloc (.cells C t)).setCells W.heap.size 0 (rcl e s).toList) W.heap.size e s:=World.rangeAt_setCells_same _ _ _ _ ht
 refine wpList_store_mid hgd 29 x y ho W.heap.size 0 (rcl e s) hx hy ht (by kernel_rfl) hs ?_
 rw [hd]
 refine h _ hr ?_ (ecell_in (hr 0 _ rfl))
 exact ((Below.refl _ _).alloc (Nat.le_refl _) _).trans (blw_cells (Nat.le_refl _) _ _ _)
theorem one_slice {w:World} {v:Value} {l:List Int} (h:Ints w v l):v.oneCell'=true:=by
 obtain ⟨a,c,rfl,_⟩:=h;rfl
theorem one_nths {w:World} {v:Value} {l:List (Int × Int)} (h:Nths w v l):v.oneCell'=true:=by
 obtain ⟨a,c,rfl,_⟩:=h;rfl
theorem rcl_one {w:World} {e:Evt} {s:Evs} (h:EvB w e s):(rcl e s).all (·.oneCell')=true:=by
 simp [rcl,one_slice h.1,one_slice h.2.1,one_nths h.2.2.1,one_slice h.2.2.2.1]
 simp [Value.oneCell']
end Go.Proofs.YtoncfgfjdlgfcaaGreatDoor
