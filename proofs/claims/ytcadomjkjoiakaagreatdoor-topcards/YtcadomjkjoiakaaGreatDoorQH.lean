/-
  Texts of our own that serve the card of this claim, joined into one.
-/
import Derived.Test.YtcadomjkjoiakaaGreatDoorRE
import Derived.Test.YtcadomjkjoiakaaGreatDoorShelf
import Derived.Test.YtcadomjkjoiakaaGreatDoorQB
import Derived.Test.YtcadomjkjoiakaaGreatDoorQA
import Derived.Lib.AppendIntMem
import Derived.Lib.QuietBelow
import Derived.Deep.RegionHeld3
import Derived.Deep.DrawnRows
import Derived.Lib.Hide
namespace Go.Proofs.YtcadomjkjoiakaaGreatDoor
open Go.RowKit Cal Txt
def dgI (c:Int):Bool:=decide (48≤c∧c≤57)
theorem dgI_eq (c:UInt8):dgI (c.toNat:Int)=isDg c:=by
 unfold dgI isDg;rw [Bool.eq_iff_iff];simp;omega
theorem isDigit_any (c:Int) (w:World) :
 Calls Tryz.prog 211 #[.int .u8 c] w fun e w'=>e=.returned (.bool (dgI c))∧w'=w:=by
 by_cases h:48≤c
 all_goals
  go_enter Tryz.func211,Tryz.ntmps211
  go_wp2
  go_ret
  exact ⟨ret_bool (by unfold dgI;rw [Bool.eq_iff_iff];simp;omega),rfl⟩
set_option maxHeartbeats 1000000 in
theorem number_any (s:ByteArray) (w:World) (hd:∀ c∈s.data.toList,isDg c=true) (hs:s.size≤9) :
 Calls Tryz.prog 169 #[.string s] w fun e w'=>e=.returned (.int .i64 (val s.data.toList))∧w'=w:=by
 go_enter Tryz.func169,Tryz.ntmps169
 go_wp2
 go_loop [3,7] (fun n i=>∃ k:Nat,k≤s.size∧i=.int .i64 k∧n=.int .i64 (val (s.data.toList.take k))) (fun _ i=>s.size - (intOf i).toNat)
 case atStart=>exact ⟨0,Nat.zero_le _,rfl,rfl⟩
 case round=>
  obtain ⟨k,hk,rfl,rfl⟩:=hrel
  have vb:=val_le9 (s.data.toList.take k) (fun c hc=>hd c (List.mem_of_mem_take hc)) (by have:=List.length_take_le k s.data.toList;omega)
  by_cases hlt:k<s.size
  ·have hc:=isDg_iff.1 (hd _ (mem_at s k hlt))
   have c1:(48:Int)≤s[k].toNat:=by omega
   have c2:(s[k].toNat:Int)≤57:=by omega
   have HS:Hid (val (s.data.toList.take (k + 1))=val (s.data.toList.take k) * 10 + (s[k].toNat - 48)):=by rw [take_snoc s k hlt];exact val_snoc _ _
   clear hc
   go_wp2
   go_round
   case rel=>exact ⟨k + 1,by omega,by go_num,by rw [HS.out];go_num⟩
   case measure=>simp [intOf];omega
  ·go_wp2
   go_ret
   exact ⟨ret_int (by rw [List.take_of_length_le (by simp;omega)]),rfl⟩
theorem two_any (n:Nat) (w:World) (h:n<100) :
 Calls Tryz.prog 158 #[.int .i64 n] w fun e w'=>e=.returned (.string ⟨(d2 n).toArray⟩)∧w'=w:=by
 have hl:(Lib.decDigits n).length≤2:=dec_len n 1 (by omega)
 by_cases h9:(n:Int)<10
 ·have H:Hid ([48]++Lib.decDigits n=d2 n):=d2_small (by omega)
  go_enter Tryz.func158,Tryz.ntmps158
  go_wp2_with (go_at_call 106;refine (Tryz.strconv_Itoa_small n h _).mono ?_;rintro e w' ⟨rfl,rfl⟩)
  go_ret
  exact ⟨by rw [← H.out];exact congrArg (fun x=>Ending.returned (.string x)) (ba_app [48] (Lib.decDigits n)),rfl⟩
 ·have H:Hid (Lib.decDigits n=d2 n):=d2_big (by omega) h
  go_enter Tryz.func158,Tryz.ntmps158
  go_wp2_with (go_at_call 106;refine (Tryz.strconv_Itoa_small n h _).mono ?_;rintro e w' ⟨rfl,rfl⟩)
  go_ret
  exact ⟨ret_str H.out,rfl⟩
end Go.Proofs.YtcadomjkjoiakaaGreatDoor
namespace Go.Proofs.YtcadomjkjoiakaaGreatDoor
open Go.RowKit Cal Txt
theorem fm_at (k:Nat) (h:k<16) (h':k<(({ data:=#[48,48,48,48,45,48,48,45,48,48,32,48,48,58,48,48] }:ByteArray)).size):({ data:=#[48,48,48,48,45,48,48,45,48,48,32,48,48,58,48,48] }:ByteArray)[k]=fm.getD k 0:=by
 have hcs:k=0∨k=1∨k=2∨k=3∨k=4∨k=5∨k=6∨k=7∨k=8∨k=9∨k=10∨k=11∨k=12∨k=13∨k=14∨k=15:=by omega
 rcases hcs with rfl | rfl | rfl | rfl | rfl | rfl | rfl | rfl | rfl | rfl | rfl | rfl | rfl | rfl | rfl | rfl <;> rfl
theorem fit_at (s:ByteArray) (k:Nat) (h:k<16) (hz:k<s.size) (h':k<(({ data:=#[48,48,48,48,45,48,48,45,48,48,32,48,48,58,48,48] }:ByteArray)).size:=h):fit (fm.getD k 0) (s.data.toList.getD k 0)=if ((({ data:=#[48,48,48,48,45,48,48,45,48,48,32,48,48,58,48,48] }:ByteArray)[k]).toNat:Int)=48 then dgI (s[k].toNat:Int) else ((s[k].toNat:Int) == ((({ data:=#[48,48,48,48,45,48,48,45,48,48,32,48,48,58,48,48] }:ByteArray)[k]).toNat:Int)):=by
 rw [fm_at k h h']
 have e:s.data.toList.getD k 0=s[k]:=by
  rw [List.getD_eq_getElem?_getD,List.getElem?_eq_getElem (by simpa using hz)];rfl
 rw [e,dgI_eq]
 unfold fit
 have e2:((fm.getD k 0).toNat:Int)=48↔fm.getD k 0=48:=by
  constructor
  ·intro g;apply UInt8.toNat_inj.1;rw [show (48:UInt8).toNat=48 from rfl];omega
  ·intro g;rw [g];rfl
 by_cases g:fm.getD k 0=48
 ·rw [if_pos g,if_pos (e2.2 g)]
 ·rw [if_neg g,if_neg (fun x=>g (e2.1 x)),Bool.eq_iff_iff,beq_iff_eq,beq_iff_eq]
  constructor
  ·intro x;rw [x]
  ·intro x;exact UInt8.toNat_inj.1 (by omega)
set_option maxRecDepth 100000 in
set_option maxHeartbeats 1000000 in
theorem hasForm_any (s:ByteArray) (w:World) :
 Calls Tryz.prog 168 #[.string s] w fun e w'=>e=.returned (.bool (frm s.data.toList))∧Below w.heap.size w w':=by
 by_cases hl:s.size=16
 ·go_enter Tryz.func168,Tryz.ntmps168
  go_wp2
  go_loopw [7] (fun i wr=>∃ k:Nat,k≤16∧i=.int .i64 k∧Below w.heap.size w wr∧∀ j,j<k→fit (fm.getD j 0) (s.data.toList.getD j 0)=true) (fun i _=>16 - (intOf i).toNat)
  case atStart=>exact ⟨0,Nat.zero_le _,rfl,Below.refl _ _,fun j hj=>by omega⟩
  case round=>
   obtain ⟨k,hk,rfl,hb,hf⟩:=hrel
   by_cases hlt:k<16
   ·have hz:k<s.size:=by omega
    have hlt':k<(({ data:=#[48,48,48,48,45,48,48,45,48,48,32,48,48,58,48,48] }:ByteArray)).size:=hlt
    have FS:Hid (fit (fm.getD k 0) (s.data.toList.getD k 0)=if ((({ data:=#[48,48,48,48,45,48,48,45,48,48,32,48,48,58,48,48] }:ByteArray)[k]).toNat:Int)=48 then dgI (s[k].toNat:Int) else ((s[k].toNat:Int) == ((({ data:=#[48,48,48,48,45,48,48,45,48,48,32,48,48,58,48,48] }:ByteArray)[k]).toNat:Int))):=fit_at s k hlt hz
    have HF:Hid (∀ j,j<k→fit (fm.getD j 0) (s.data.toList.getD j 0)=true):=hf
    clear hf
    by_cases q:((({ data:=#[48,48,48,48,45,48,48,45,48,48,32,48,48,58,48,48] }:ByteArray)[k]).toNat:Int)=48
    ·have q1:(((({ data:=#[48,48,48,48,45,48,48,45,48,48,32,48,48,58,48,48] }:ByteArray)[k]).toNat:Int) == 48)=true:=by rw [beq_iff_eq];exact q
     have q2:(((({ data:=#[48,48,48,48,45,48,48,45,48,48,32,48,48,58,48,48] }:ByteArray)[k]).toNat:Int) != 48)=false:=by rw [bne_eq_false_iff_eq];exact q
     have FS2:Hid (fit (fm.getD k 0) (s.data.toList.getD k 0)=dgI (s[k].toNat:Int)):=FS.out.trans (if_pos q)
     clear FS q
     rcases hd:dgI (s[k].toNat:Int) with _ | _
     ·rw [hd] at FS2
      go_wp2
      go_quiet ((go_at_call 211;exact Calls.quiet_of_same (isDigit_any _ _)))
      go_wp2
      go_ret
      exact ⟨ret_bool (frm_not k hlt FS2.out).symm,below_drewN hb _⟩
     ·rw [hd] at FS2
      go_wp2
      go_quiet ((go_at_call 211;exact Calls.quiet_of_same (isDigit_any _ _)))
      go_wp2
      go_roundw
      case rel=>exact ⟨k + 1,by omega,by go_num,below_drewN hb _,fun j hj=>by
       rcases Nat.lt_or_ge j k with g | g
       ·exact HF.out j g
       ·obtain rfl:j=k:=by omega
        exact FS2.out⟩
      case measure=>simp [intOf];omega
    ·have q1:(((({ data:=#[48,48,48,48,45,48,48,45,48,48,32,48,48,58,48,48] }:ByteArray)[k]).toNat:Int) == 48)=false:=by rw [beq_eq_false_iff_ne];exact q
     have q2:(((({ data:=#[48,48,48,48,45,48,48,45,48,48,32,48,48,58,48,48] }:ByteArray)[k]).toNat:Int) != 48)=true:=by rw [bne_iff_ne];exact q
     have FS2:Hid (fit (fm.getD k 0) (s.data.toList.getD k 0)=((s[k].toNat:Int) == ((({ data:=#[48,48,48,48,45,48,48,45,48,48,32,48,48,58,48,48] }:ByteArray)[k]).toNat:Int))):=FS.out.trans (if_neg q)
     clear FS q
     rcases hd:((s[k].toNat:Int) == ((({ data:=#[48,48,48,48,45,48,48,45,48,48,32,48,48,58,48,48] }:ByteArray)[k]).toNat:Int)) with _ | _
     ·rw [hd] at FS2
      have hd2:((s[k].toNat:Int) != ((({ data:=#[48,48,48,48,45,48,48,45,48,48,32,48,48,58,48,48] }:ByteArray)[k]).toNat:Int))=true:=by rw [bne,hd];rfl
      go_wp2
      go_quiet ((go_at_call 211;exact Calls.quiet_of_same (isDigit_any _ _)))
      go_wp2
      go_ret
      exact ⟨ret_bool (frm_not k hlt FS2.out).symm,below_drewN hb _⟩
     ·rw [hd] at FS2
      have hd2:((s[k].toNat:Int) != ((({ data:=#[48,48,48,48,45,48,48,45,48,48,32,48,48,58,48,48] }:ByteArray)[k]).toNat:Int))=false:=by rw [bne,hd];rfl
      go_wp2
      go_quiet ((go_at_call 211;exact Calls.quiet_of_same (isDigit_any _ _)))
      go_wp2
      go_roundw
      case rel=>exact ⟨k + 1,by omega,by go_num,below_drewN hb _,fun j hj=>by
       rcases Nat.lt_or_ge j k with g | g
       ·exact HF.out j g
       ·obtain rfl:j=k:=by omega
        exact FS2.out⟩
      case measure=>simp [intOf];omega
   ·have hk':k=16:=by omega
    subst hk'
    have HF:Hid (frm s.data.toList=true):=frm_mk (by simpa using hl) hf
    clear hf
    go_wp2
    go_ret
    exact ⟨ret_bool HF.out.symm,hb⟩
 ·have H:Hid (frm s.data.toList=false):=frm_short (by simpa using hl)
  have hl2:((s.size:Int) != 16)=true:=by rw [bne_iff_ne];omega
  clear hl
  go_enter Tryz.func168,Tryz.ntmps168
  go_wp2
  go_ret
  exact ⟨ret_bool H.out.symm,Below.refl _ _⟩
end Go.Proofs.YtcadomjkjoiakaaGreatDoor
namespace Go.Proofs.YtcadomjkjoiakaaGreatDoor
open Go.RowKit Cal Txt
def Pow (w : World) : Prop := Lib.TabIs Tryz.prog w "internal/strconv.uint64pow10" .u64 Lib.pow10Tab
theorem Pow.below {w w':World} (h:Pow w) (b:Below w.heap.size w w'):Pow w':=Lib.tabBelow_of_tabIs h w' b
theorem Pow.alloc {w:World} (h:Pow w) (o:Obj):Pow (w.alloc o):=h.below ((Below.refl _ _).alloc (Nat.le_refl _) _)
theorem below_grew (w:World) (q:Nat) (os:Array Obj):Below w.heap.size w (Sort.grow (w.drewN q) os):=
 ⟨rfl,rfl,rfl,by simp [Sort.grow],fun i hi=>by
  show ((w.drewN q).heap++os)[i]?=_
  rw [Array.getElem?_append_left (by show i<w.heap.size;omega)]
  rfl⟩
theorem itoa_any (n:Int) (w:World) (hP:Pow w) (h0:0≤n) (h1:n≤999999999) :
 Calls Tryz.prog 106 #[.int .i64 n] w fun e w'=>e=.returned (.string ⟨(Lib.decDigits n.toNat).toArray⟩)∧Below w.heap.size w w':=by
 refine (Tryz.strconv_Itoa n (by omega) (by omega) w hP).mono ?_
 rintro e w' ⟨rfl,k,os,rfl⟩
 refine ⟨?_,below_grew w k os⟩
 unfold Lib.itoa
 rw [if_neg (by omega)]
theorem two_int (n:Int) (w:World) (h0:0≤n) (h1:n<100) :
 Calls Tryz.prog 158 #[.int .i64 n] w fun e w'=>e=.returned (.string ⟨(d2 n.toNat).toArray⟩)∧w'=w:=by
 obtain ⟨k,rfl⟩:=Int.eq_ofNat_of_zero_le h0
 rw [Int.toNat_natCast]
 exact two_any k w (by omega)
end Go.Proofs.YtcadomjkjoiakaaGreatDoor
namespace Go.Proofs.YtcadomjkjoiakaaGreatDoor
open Go.RowKit Cal Txt
set_option maxHeartbeats 1000000 in
theorem time_yes (y m d i:Int) (w:World) (hT:Tab w) (h:okD y m d) (h0:0≤i) (h1:i≤1439) (hp:1≤(num y m d - 1) * 1440 + i) :
 Calls Tryz.prog 170 #[.agg #[.int .i64 y,.int .i64 m,.int .i64 d],.int .i64 i] w fun e w'=>e=.returned (.tuple #[.int .i64 ((num y m d - 1) * 1440 + i),.nilIface])∧Below w.heap.size w w':=by
 have nb:=num_bd h
 have hi:=ist_yes hp (by omega)
 have H:Hid (okD y m d):=h
 clear h
 go_enter Tryz.func170,Tryz.ntmps170
 go_wp2_with fail
 refine (of_yes y m d _ (hT.alloc _) H.out).mono ?_
 rintro e w1 ⟨rfl,hb⟩
 go_wp2_with (go_at_call 23;refine (isTime_any _ _).mono ?_;rintro e w' ⟨rfl,rfl⟩)
 go_ret2
 exact ⟨rfl,((Below.refl _ _).alloc (Nat.le_refl _) _).trans (hb.mono (by simp))⟩
set_option maxHeartbeats 1000000 in
theorem time_no (y m d i:Int) (w:World) (hT:Tab w) (h:¬ (okD y m d∧0≤i∧i≤1439∧1≤(num y m d - 1) * 1440 + i)) :
 Calls Tryz.prog 170 #[.agg #[.int .i64 y,.int .i64 m,.int .i64 d],.int .i64 i] w fun e w'=>e=.returned (.tuple #[.int .i64 0,errRange])∧Below w.heap.size w w':=by
 by_cases ho:okD y m d
 ·have nb:=num_bd ho
  have H:Hid (okD y m d):=ho
  have hc:i<0∨(0≤i∧1440≤i)∨(0≤i∧i<1440∧(num y m d - 1) * 1440 + i<1):=by
   by_cases a:i<0
   ·exact Or.inl a
   by_cases b:1440≤i
   ·exact Or.inr (Or.inl ⟨by omega,b⟩)
   ·refine Or.inr (Or.inr ⟨by omega,by omega,?_⟩)
    rcases Int.lt_or_le ((num y m d - 1) * 1440 + i) 1 with q | q
    ·exact q
    ·exact absurd ⟨ho,by omega,by omega,q⟩ h
  clear h ho
  rcases hc with c | ⟨c,c'⟩ | ⟨c,c',c''⟩
  ·go_enter Tryz.func170,Tryz.ntmps170
   go_wp2_with fail
   refine (of_yes y m d _ (hT.alloc _) H.out).mono ?_
   rintro e w1 ⟨rfl,hb⟩
   go_wp2
   go_ret2
   exact ⟨rfl,((Below.refl _ _).alloc (Nat.le_refl _) _).trans (hb.mono (by simp))⟩
  ·go_enter Tryz.func170,Tryz.ntmps170
   go_wp2_with fail
   refine (of_yes y m d _ (hT.alloc _) H.out).mono ?_
   rintro e w1 ⟨rfl,hb⟩
   go_wp2
   go_ret2
   exact ⟨rfl,((Below.refl _ _).alloc (Nat.le_refl _) _).trans (hb.mono (by simp))⟩
  ·have hi:=ist_no (t:=(num y m d - 1) * 1440 + i) (by omega)
   go_enter Tryz.func170,Tryz.ntmps170
   go_wp2_with fail
   refine (of_yes y m d _ (hT.alloc _) H.out).mono ?_
   rintro e w1 ⟨rfl,hb⟩
   go_wp2_with (go_at_call 23;refine (isTime_any _ _).mono ?_;rintro e w' ⟨rfl,rfl⟩)
   go_ret2
   exact ⟨rfl,((Below.refl _ _).alloc (Nat.le_refl _) _).trans (hb.mono (by simp))⟩
 ·have H:Hid (¬ okD y m d):=ho
  clear h ho
  go_enter Tryz.func170,Tryz.ntmps170
  go_wp2_with fail
  refine (of_no y m d _ (hT.alloc _) H.out).mono ?_
  rintro e w1 ⟨rfl,hb⟩
  go_wp2
  go_ret2
  exact ⟨rfl,((Below.refl _ _).alloc (Nat.le_refl _) _).trans (hb.mono (by simp))⟩
theorem print_eq (a b c d e:List UInt8):(⟨a.toArray⟩:ByteArray)++⟨#[45]⟩++⟨b.toArray⟩++⟨#[45]⟩++⟨c.toArray⟩++⟨#[32]⟩++⟨d.toArray⟩++⟨#[58]⟩++⟨e.toArray⟩=⟨(a++[45]++b++[45]++c++[32]++d++[58]++e).toArray⟩:=by
 apply ByteArray.ext;simp
end Go.Proofs.YtcadomjkjoiakaaGreatDoor
namespace Go.Proofs.YtcadomjkjoiakaaGreatDoor
open Go.RowKit Cal Txt
theorem ret_strNil {a:ByteArray} {b:List UInt8} (h:a=⟨b.toArray⟩):Ending.returned (.tuple #[.string a,.nilIface])=.returned (.tuple #[.string ⟨b.toArray⟩,.nilIface]):=by rw [h]
set_option maxRecDepth 100000 in
set_option maxHeartbeats 2000000 in
theorem print_yes (t:Int) (w:World) (hT:Tab w) (hP:Pow w) (h1:1≤t) (h2:t≤157785119) :
 Calls Tryz.prog 102 #[.int .i64 t] w fun e w'=>e=.returned (.tuple #[.string ⟨(txt t).toArray⟩,.nilIface])∧Below w.heap.size w w':=by
 have a1:1≤t / 1440 + 1:=by omega
 have a2:t / 1440 + 1≤109573:=by omega
 obtain ⟨o1,o2,o3,o4,o5,o6⟩:=date_ok a1 a2
 have m31:=ml_31 (yr (t / 1440 + 1)) (mo (t / 1440 + 1))
 have FIN:Hid (Lib.decDigits (yr (t / 1440 + 1)).toNat++[45]++d2 (mo (t / 1440 + 1)).toNat++[45]++d2 (da (t / 1440 + 1)).toNat++[32]++d2 (t % 1440 / 60).toNat++[58]++d2 (t % 60).toNat=txt t):=by
  show _=tmt _ _ _ _ _
  unfold tmt
  rw [d2_year (n:=(yr (t / 1440 + 1)).toNat) (by omega) (by omega)]
 have e1:(d2 (mo (t / 1440 + 1)).toNat).length=2:=rfl
 have e2:(d2 (da (t / 1440 + 1)).toNat).length=2:=rfl
 have e3:(d2 (t % 1440 / 60).toNat).length=2:=rfl
 have e4:(d2 (t % 60).toNat).length=2:=rfl
 have e0:(Lib.decDigits (yr (t / 1440 + 1)).toNat).length≤4:=dec_len _ 3 (by omega)
 go_enter Tryz.func102,Tryz.ntmps102
 go_wp2_with fail
 refine (split_yes t _ h1 h2).mono ?_
 rintro e w1 ⟨rfl,hw⟩
 subst hw
 go_wp2_with fail
 refine (date_yes (t / 1440 + 1) _ hT a1 a2).mono ?_
 rintro e w2 ⟨rfl,hb⟩
 have hP2:=(hP.below hb).alloc (.cells #[.int .i64 (yr (t / 1440 + 1)),.int .i64 (mo (t / 1440 + 1)),.int .i64 (da (t / 1440 + 1))] 200)
 have D2:=Dat.new w2 (yr (t / 1440 + 1)) (mo (t / 1440 + 1)) (da (t / 1440 + 1)) 200
 have hb2:=hb.alloc hb.size (.cells #[.int .i64 (yr (t / 1440 + 1)),.int .i64 (mo (t / 1440 + 1)),.int .i64 (da (t / 1440 + 1))] 200)
 clear hb
 go_wp2_with fail
 generalize w2.alloc (.cells #[.int .i64 (yr (t / 1440 + 1)),.int .i64 (mo (t / 1440 + 1)),.int .i64 (da (t / 1440 + 1))] 200)=W at hP2 D2 hb2 ⊢
 obtain ⟨D_0,D_1,D_2⟩:=id D2
 have k0:=cell_regrown D_0
 have k1:=cell_regrown D_1
 have k2:=cell_regrown D_2
 have n1:¬ 9223372036854775807<(Lib.decDigits (yr (t / 1440 + 1)).toNat).length + 1:=by omega
 have n2:¬ 9223372036854775807<(Lib.decDigits (yr (t / 1440 + 1)).toNat).length + 1 + 2:=by omega
 have n3:¬ 9223372036854775807<(Lib.decDigits (yr (t / 1440 + 1)).toNat).length + 1 + 2 + 1:=by omega
 have n4:¬ 9223372036854775807<(Lib.decDigits (yr (t / 1440 + 1)).toNat).length + 1 + 2 + 1 + 2:=by omega
 refine wp_region_quiet_below (by kernel_rfl) (by kernel_rfl) ?_
 repeat (quiet_step (first | (go_at_call 106;exact Calls.regrown_of (itoa_any _ _ (hP2.below (below_regrown W _ _)) (by omega) (by omega))) | (go_at_call 158;exact Calls.regrown_of (below_same (two_int _ _ (by omega) (by omega))))))
 refine wpQuiet_nil ?_
 intro _ hw'
 obtain ⟨⟨dq,osq⟩,hw''⟩:=hw'
 subst hw''
 have hb3:=hb2.trans ((below_regrown W dq osq).mono hb2.size)
 clear k0 k1 k2 D_0 D_1 D_2 D2 hP2 hb2
 generalize Sort.grow (redrawn W dq) osq=W3 at hb3 ⊢
 go_wp2_with fail
 refine (two_int _ _ (by omega) (by omega)).mono ?_
 rintro e w' ⟨rfl,hw⟩
 subst hw
 go_wp2_with fail
 refine (two_int _ _ (by omega) (by omega)).mono ?_
 rintro e w' ⟨rfl,hw⟩
 subst hw
 go_wp2_with fail
 go_ret2
 exact ⟨ret_strNil ((print_eq _ _ _ _ _).trans (by rw [FIN.out])),hb3⟩
end Go.Proofs.YtcadomjkjoiakaaGreatDoor
namespace Go.Proofs.YtcadomjkjoiakaaGreatDoor
open Go.RowKit Cal Txt
attribute [local go_sem ↓] Go.wp_at_zero Go.wp_at_succ
theorem number_at (s:ByteArray) (a b:Nat) (w:World) (h9:b - a≤9) (hd:∀ c∈(s.data.toList.drop a).take (b - a),isDg c=true) :
 Calls Tryz.prog 169 #[.string (s.extract a b)] w fun e w'=>e=.returned (.int .i64 (nm s.data.toList a b))∧w'=w:=by
 have e:(s.extract a b).data.toList=(s.data.toList.drop a).take (b - a):=by
  simp [ByteArray.data_extract]
 have hz:(s.extract a b).size≤9:=by
  have:(s.extract a b).size=(s.extract a b).data.toList.length:=rfl
  rw [this,e,List.length_take];omega
 have:=number_any (s.extract a b) w (by rw [e];exact hd) hz
 rw [e] at this
 exact this
theorem parse_bad (s:ByteArray) (w:World) (hf:frm s.data.toList=false) :
 Calls Tryz.prog 111 #[.string s] w fun e w'=>e=.returned (.tuple #[.int .i64 0,.iface 73 (.int .i64 2)])∧Below w.heap.size w w':=by
 go_enter Tryz.func111,Tryz.ntmps111
 go_wp2_with fail
 refine (hasForm_any s _).mono ?_
 rintro e w1 ⟨rfl,hb⟩
 go_wp2
 go_ret2
 exact ⟨rfl,hb⟩
theorem ret_intNil {a b:Int} (h:a=b):Ending.returned (.tuple #[.int .i64 a,.nilIface])=.returned (.tuple #[.int .i64 b,.nilIface]):=by rw [h]
set_option maxRecDepth 100000 in
set_option maxHeartbeats 4000000 in
theorem parse_yes (s:ByteArray) (w:World) (hT:Tab w) (hf:frm s.data.toList=true) (hg:good s.data.toList) :
 Calls Tryz.prog 111 #[.string s] w fun e w'=>e=.returned (.tuple #[.int .i64 (raw s.data.toList),.nilIface])∧Below w.heap.size w w':=by
 have hl:s.size=16:=by have:=frm_len hf;simpa using this
 obtain ⟨b1,b2,b3,b4,b5⟩:=nm_lt hf
 obtain ⟨d1,d2,d3,d4,d5⟩:=frm_dg hf
 have D1:=Lib.hid d1
 have D2:=Lib.hid d2
 have D3:=Lib.hid d3
 have D4:=Lib.hid d4
 have D5:=Lib.hid d5
 clear d1 d2 d3 d4 d5
 obtain ⟨g1,g2,g3,g4⟩:=hg
 have G1:Hid (okD (nm s.data.toList 0 4) (nm s.data.toList 5 7) (nm s.data.toList 8 10)):=g1
 have G4:Hid (1≤raw s.data.toList):=g4
 have q3:(nm s.data.toList 14 16:Int)≤59:=by omega
 clear g1 g4
 go_enter Tryz.func111,Tryz.ntmps111
 go_wp2_with fail
 refine (hasForm_any s _).mono ?_
 rintro e w1 ⟨rfl,hb⟩
 have hT1:=hT.below hb
 clear hT
 go_wp2_with fail
 go_region_held3 (fun _=>True) (trivial) (first
  | (go_at_call_of 169 (Value.string (s.extract 0 4));refine (number_at s 0 4 _ (by omega) D1.out).mono ?_;rintro e w' ⟨rfl,rfl⟩)
  | (go_at_call_of 169 (Value.string (s.extract 5 7));refine (number_at s 5 7 _ (by omega) D2.out).mono ?_;rintro e w' ⟨rfl,rfl⟩)
  | (go_at_call_of 169 (Value.string (s.extract 8 10));refine (number_at s 8 10 _ (by omega) D3.out).mono ?_;rintro e w' ⟨rfl,rfl⟩))
 all_goals
  go_wp2_with fail
  have hT2:Tab (w1.alloc (.cells #[.int .i64 (nm s.data.toList 0 4),.int .i64 (nm s.data.toList 5 7),.int .i64 (nm s.data.toList 8 10)] 200)).drew:=(hT1.alloc _).drew
  have E2:Dat (w1.alloc (.cells #[.int .i64 (nm s.data.toList 0 4),.int .i64 (nm s.data.toList 5 7),.int .i64 (nm s.data.toList 8 10)] 200)).drew w1.heap.size (nm s.data.toList 0 4) (nm s.data.toList 5 7) (nm s.data.toList 8 10):=Dat.new w1 _ _ _ _
  have hb2:Below w.heap.size w (w1.alloc (.cells #[.int .i64 (nm s.data.toList 0 4),.int .i64 (nm s.data.toList 5 7),.int .i64 (nm s.data.toList 8 10)] 200)).drew:=(hb.alloc hb.size _).drew
  generalize (w1.alloc (.cells #[.int .i64 (nm s.data.toList 0 4),.int .i64 (nm s.data.toList 5 7),.int .i64 (nm s.data.toList 8 10)] 200)).drew=W at hT2 E2 hb2 ⊢
  refine wp_region_quiet_below (by kernel_rfl) (by kernel_rfl) ?_
  repeat (quiet_step (first
   | (go_at_call_of 169 (Value.string (s.extract 11 13));exact Calls.regrown_of (below_same (number_at s 11 13 _ (by omega) D4.out)))
   | (go_at_call_of 169 (Value.string (s.extract 14 16));exact Calls.regrown_of (below_same (number_at s 14 16 _ (by omega) D5.out)))))
  refine wpQuiet_nil ?_
  intro _ hw'
  obtain ⟨⟨dq,osq⟩,hw''⟩:=hw'
  subst hw''
  have hT3:=hT2.below (below_regrown W dq osq)
  have E3:=E2.on (below_regrown W dq osq)
  have hb3:=hb2.trans ((below_regrown W dq osq).mono hb2.size)
  generalize Sort.grow (redrawn W dq) osq=W3 at hT3 E3 hb3 ⊢
  clear hT2 E2 hb2 hb hT1
  obtain ⟨E_0,E_1,E_2⟩:=id E3
  have E_l:=E3.lt
  go_wp2_with fail
  refine (time_yes _ _ _ _ _ hT3 G1.out (by omega) (by omega) (by have:=G4.out;unfold raw at this;omega)).mono ?_
  rintro e w4 ⟨rfl,hb4⟩
  go_wp2_with fail
  go_ret2
  exact ⟨ret_intNil (by unfold raw;omega),hb3.trans (hb4.mono hb3.size)⟩
set_option maxRecDepth 100000 in
set_option maxHeartbeats 4000000 in
theorem parse_min (s:ByteArray) (w:World) (hT:Tab w) (hf:frm s.data.toList=true) (hg:¬ nm s.data.toList 14 16≤59) :
 Calls Tryz.prog 111 #[.string s] w fun e w'=>e=.returned (.tuple #[.int .i64 0,errRange])∧Below w.heap.size w w':=by
 have hl:s.size=16:=by have:=frm_len hf;simpa using this
 obtain ⟨b1,b2,b3,b4,b5⟩:=nm_lt hf
 obtain ⟨d1,d2,d3,d4,d5⟩:=frm_dg hf
 have D1:=Lib.hid d1
 have D2:=Lib.hid d2
 have D3:=Lib.hid d3
 have D4:=Lib.hid d4
 have D5:=Lib.hid d5
 clear d1 d2 d3 d4 d5
 have q3:60≤(nm s.data.toList 14 16:Int):=by omega
 clear hg
 go_enter Tryz.func111,Tryz.ntmps111
 go_wp2_with fail
 refine (hasForm_any s _).mono ?_
 rintro e w1 ⟨rfl,hb⟩
 have hT1:=hT.below hb
 clear hT
 go_wp2_with fail
 go_region_held3 (fun _=>True) (trivial) (first
  | (go_at_call_of 169 (Value.string (s.extract 0 4));refine (number_at s 0 4 _ (by omega) D1.out).mono ?_;rintro e w' ⟨rfl,rfl⟩)
  | (go_at_call_of 169 (Value.string (s.extract 5 7));refine (number_at s 5 7 _ (by omega) D2.out).mono ?_;rintro e w' ⟨rfl,rfl⟩)
  | (go_at_call_of 169 (Value.string (s.extract 8 10));refine (number_at s 8 10 _ (by omega) D3.out).mono ?_;rintro e w' ⟨rfl,rfl⟩))
 all_goals
  go_wp2_with fail
  have hT2:Tab (w1.alloc (.cells #[.int .i64 (nm s.data.toList 0 4),.int .i64 (nm s.data.toList 5 7),.int .i64 (nm s.data.toList 8 10)] 200)).drew:=(hT1.alloc _).drew
  have E2:Dat (w1.alloc (.cells #[.int .i64 (nm s.data.toList 0 4),.int .i64 (nm s.data.toList 5 7),.int .i64 (nm s.data.toList 8 10)] 200)).drew w1.heap.size (nm s.data.toList 0 4) (nm s.data.toList 5 7) (nm s.data.toList 8 10):=Dat.new w1 _ _ _ _
  have hb2:Below w.heap.size w (w1.alloc (.cells #[.int .i64 (nm s.data.toList 0 4),.int .i64 (nm s.data.toList 5 7),.int .i64 (nm s.data.toList 8 10)] 200)).drew:=(hb.alloc hb.size _).drew
  generalize (w1.alloc (.cells #[.int .i64 (nm s.data.toList 0 4),.int .i64 (nm s.data.toList 5 7),.int .i64 (nm s.data.toList 8 10)] 200)).drew=W at hT2 E2 hb2 ⊢
  refine wp_region_quiet_below (by kernel_rfl) (by kernel_rfl) ?_
  repeat (quiet_step (first
   | (go_at_call_of 169 (Value.string (s.extract 11 13));exact Calls.regrown_of (below_same (number_at s 11 13 _ (by omega) D4.out)))
   | (go_at_call_of 169 (Value.string (s.extract 14 16));exact Calls.regrown_of (below_same (number_at s 14 16 _ (by omega) D5.out)))))
  refine wpQuiet_nil ?_
  intro _ hw'
  obtain ⟨⟨dq,osq⟩,hw''⟩:=hw'
  subst hw''
  have hT3:=hT2.below (below_regrown W dq osq)
  have E3:=E2.on (below_regrown W dq osq)
  have hb3:=hb2.trans ((below_regrown W dq osq).mono hb2.size)
  generalize Sort.grow (redrawn W dq) osq=W3 at hT3 E3 hb3 ⊢
  clear hT2 E2 hb2 hb hT1
  obtain ⟨E_0,E_1,E_2⟩:=id E3
  have E_l:=E3.lt
  go_wp2_with fail
  go_ret2
  exact ⟨rfl,hb3⟩
set_option maxRecDepth 100000 in
set_option maxHeartbeats 4000000 in
theorem parse_none (s:ByteArray) (w:World) (hT:Tab w) (hf:frm s.data.toList=true) (hg:nm s.data.toList 14 16≤59) (hn:¬ good s.data.toList) :
 Calls Tryz.prog 111 #[.string s] w fun e w'=>e=.returned (.tuple #[.int .i64 0,errRange])∧Below w.heap.size w w':=by
 have hl:s.size=16:=by have:=frm_len hf;simpa using this
 obtain ⟨b1,b2,b3,b4,b5⟩:=nm_lt hf
 obtain ⟨d1,d2,d3,d4,d5⟩:=frm_dg hf
 have D1:=Lib.hid d1
 have D2:=Lib.hid d2
 have D3:=Lib.hid d3
 have D4:=Lib.hid d4
 have D5:=Lib.hid d5
 clear d1 d2 d3 d4 d5
 have q3:(nm s.data.toList 14 16:Int)≤59:=by omega
 have HN:Hid (¬ (okD (nm s.data.toList 0 4) (nm s.data.toList 5 7) (nm s.data.toList 8 10)∧0≤(nm s.data.toList 11 13 * 60 + nm s.data.toList 14 16:Int)∧(nm s.data.toList 11 13 * 60 + nm s.data.toList 14 16:Int)≤1439∧1≤(num (nm s.data.toList 0 4) (nm s.data.toList 5 7) (nm s.data.toList 8 10) - 1) * 1440 + (nm s.data.toList 11 13 * 60 + nm s.data.toList 14 16:Int))):=fun h=>hn ⟨h.1,by omega,hg,by unfold raw;omega⟩
 clear hn
 go_enter Tryz.func111,Tryz.ntmps111
 go_wp2_with fail
 refine (hasForm_any s _).mono ?_
 rintro e w1 ⟨rfl,hb⟩
 have hT1:=hT.below hb
 clear hT
 go_wp2_with fail
 go_region_held3 (fun _=>True) (trivial) (first
  | (go_at_call_of 169 (Value.string (s.extract 0 4));refine (number_at s 0 4 _ (by omega) D1.out).mono ?_;rintro e w' ⟨rfl,rfl⟩)
  | (go_at_call_of 169 (Value.string (s.extract 5 7));refine (number_at s 5 7 _ (by omega) D2.out).mono ?_;rintro e w' ⟨rfl,rfl⟩)
  | (go_at_call_of 169 (Value.string (s.extract 8 10));refine (number_at s 8 10 _ (by omega) D3.out).mono ?_;rintro e w' ⟨rfl,rfl⟩))
 all_goals
  go_wp2_with fail
  have hT2:Tab (w1.alloc (.cells #[.int .i64 (nm s.data.toList 0 4),.int .i64 (nm s.data.toList 5 7),.int .i64 (nm s.data.toList 8 10)] 200)).drew:=(hT1.alloc _).drew
  have E2:Dat (w1.alloc (.cells #[.int .i64 (nm s.data.toList 0 4),.int .i64 (nm s.data.toList 5 7),.int .i64 (nm s.data.toList 8 10)] 200)).drew w1.heap.size (nm s.data.toList 0 4) (nm s.data.toList 5 7) (nm s.data.toList 8 10):=Dat.new w1 _ _ _ _
  have hb2:Below w.heap.size w (w1.alloc (.cells #[.int .i64 (nm s.data.toList 0 4),.int .i64 (nm s.data.toList 5 7),.int .i64 (nm s.data.toList 8 10)] 200)).drew:=(hb.alloc hb.size _).drew
  generalize (w1.alloc (.cells #[.int .i64 (nm s.data.toList 0 4),.int .i64 (nm s.data.toList 5 7),.int .i64 (nm s.data.toList 8 10)] 200)).drew=W at hT2 E2 hb2 ⊢
  refine wp_region_quiet_below (by kernel_rfl) (by kernel_rfl) ?_
  repeat (quiet_step (first
   | (go_at_call_of 169 (Value.string (s.extract 11 13));exact Calls.regrown_of (below_same (number_at s 11 13 _ (by omega) D4.out)))
   | (go_at_call_of 169 (Value.string (s.extract 14 16));exact Calls.regrown_of (below_same (number_at s 14 16 _ (by omega) D5.out)))))
  refine wpQuiet_nil ?_
  intro _ hw'
  obtain ⟨⟨dq,osq⟩,hw''⟩:=hw'
  subst hw''
  have hT3:=hT2.below (below_regrown W dq osq)
  have E3:=E2.on (below_regrown W dq osq)
  have hb3:=hb2.trans ((below_regrown W dq osq).mono hb2.size)
  generalize Sort.grow (redrawn W dq) osq=W3 at hT3 E3 hb3 ⊢
  clear hT2 E2 hb2 hb hT1
  obtain ⟨E_0,E_1,E_2⟩:=id E3
  have E_l:=E3.lt
  go_wp2_with fail
  refine (time_no _ _ _ _ _ hT3 HN.out).mono ?_
  rintro e w4 ⟨rfl,hb4⟩
  go_wp2_with fail
  go_ret2
  exact ⟨rfl,hb3.trans (hb4.mono hb3.size)⟩
end Go.Proofs.YtcadomjkjoiakaaGreatDoor
