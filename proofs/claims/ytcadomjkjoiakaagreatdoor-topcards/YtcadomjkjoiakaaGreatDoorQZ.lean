/-
  Texts of our own that serve the card of this claim, joined into one.
-/
import Derived.Test.YtcadomjkjoiakaaGreatDoorQK
import Derived.Test.YtcadomjkjoiakaaGreatDoorRB
import Derived.Deep.Cut
import Derived.Deep.RegionHeld3
import Derived.BigQuiet
import Derived.Lib.UnsafeStr
import Derived.Laws.IdiomStrings
namespace Go.Proofs.YtcadomjkjoiakaaGreatDoor
open Go.RowKit Cal Ln
theorem ln_take (s:ByteArray) (c k:Nat) (hc:c=min s.size k):(s.extract 0 c).data.toList=s.data.toList.take k:=by
 rw [ByteArray.data_extract,Array.toList_extract,List.extract_eq_take_drop]
 show (s.data.toList.drop 0).take (c - 0)=_
 rw [List.drop_zero,Nat.sub_zero,hc]
 rcases Nat.le_total s.size k with h | h
 ·rw [Nat.min_eq_left h,List.take_of_length_le h]
  exact List.take_of_length_le (Nat.le_refl _)
 ·rw [Nat.min_eq_right h]
theorem ln_drop (s:ByteArray) (c k:Nat) (hc:c=min s.size k):(s.extract c s.size).data.toList=s.data.toList.drop k:=by
 rw [ByteArray.data_extract,Array.toList_extract,List.extract_eq_take_drop]
 have e:(s.data.toList.drop c).take (s.size - c)=s.data.toList.drop c:=List.take_of_length_le (by rw [List.length_drop];exact Nat.le_refl _)
 show (s.data.toList.drop c).take (s.size - c)=_
 rw [e,hc]
 rcases Nat.le_total s.size k with h | h
 ·rw [Nat.min_eq_left h,List.drop_of_length_le h]
  exact List.drop_of_length_le (Nat.le_refl _)
 ·rw [Nat.min_eq_right h]
theorem blank_app (y:ByteArray):((⟨#[32]⟩:ByteArray)++y).data.toList=32 :: y.data.toList:=by simp
def sLen:Value→Nat
 | .string s=>s.size
 | _=>0
theorem nil_of_size {x:ByteArray} (h:x.size=0):x.data.toList=[]:=List.eq_nil_of_length_eq_zero h
theorem ne_of_size {x:ByteArray} (h:¬ x.size=0):x.data.toList≠[]:=fun k=>h (by have:=congrArg List.length k;simpa using this)
def FoldA (s:ByteArray) (w:World) (e:Ending) (w':World):Prop:=
 Below w.heap.size w w'∧∃ v xs,e=.returned v∧w'.ownsRow w.heap.size 9 1 v (fold s.data.toList).length (strs xs)∧xs.map (·.data.toList)=fold s.data.toList
set_option maxRecDepth 100000 in
set_option maxHeartbeats 2000000 in
theorem fold_any (s:ByteArray) (w:World) (hs:s.size≤140737488351232) :
 Calls Tryz.prog 13 #[.string s] w (FoldA s w):=by
 obtain ⟨i0,hi,hz0,hz1,hz2⟩:=info_parts info_str
 obtain ⟨c,hc⟩:∃ c,c=min s.size 40:=⟨_,rfl⟩
 have hc0:(if 40<(s.size:Int) then 40 else (s.size:Int))=(c:Int):=by split <;> omega
 have hcs:c≤s.size:=by omega
 have hci:(c:Int)≤(s.size:Int):=by omega
 have hcn:(0:Int)≤(c:Int):=by omega
 have HT:=Lib.hid (ln_take s c 40 hc)
 have HD:=Lib.hid (ln_drop s c 40 hc)
 clear hc
 go_enter Tryz.func13,Tryz.ntmps13
 go_upto_region 2 with (fail)
 go_region_held3 (fun _=>True) (trivial) (fail)
 clear hc0 hci hcn
 go_wp2
 go_loopw [3,4,5] (fun t v l wr=>∃ (n:Int) (x:ByteArray) (xs:List ByteArray),t=.int .i64 n∧l=.string x∧x.size≤s.size∧FK s.data.toList x.data.toList (xs.map (·.data.toList))∧wr.ownsRow w.heap.size 9 1 v xs.length (strs xs)∧Below w.heap.size w wr) (fun _ _ l _=>sLen l)
 case atStart=>exact ⟨_,_,[s.extract 0 c],rfl,rfl,by simp,by rw [HD.out];show FK _ _ [(s.extract 0 c).data.toList];rw [HT.out];exact FK_start _,(World.ownsRow_lit w _ 1 (Nat.le_refl _) (by decide) rfl).drew,((Below.refl _ _).alloc (Nat.le_refl _) _).drew⟩
 case round=>
  clear HT HD hcs
  obtain ⟨n,x,xs,rfl,rfl,hx,hK,hown,hB⟩:=hrel
  have HK:=Lib.hid hK
  have HO:=Lib.hid hown
  clear hK hown
  by_cases h0:x.size=0
  ·have e0:x=⟨#[]⟩:=ByteArray.ext (Array.eq_empty_of_size_eq_zero h0)
   have R:=HO.out
   have E1:=FK_end (by have:=HK.out;rw [nil_of_size h0] at this;exact this)
   rw [show xs.length=(fold s.data.toList).length by rw [← E1,List.length_map]] at R
   have HR:=Lib.hid R
   have HE:=Lib.hid E1
   clear R E1 HO HK
   go_wp2
   go_ret
   exact ⟨hB,_,xs,rfl,HR.out,HE.out⟩
  ·have p:x.toList.isEmpty=false:=by rw [ByteArray.toList_eq];simpa using ne_of_size h0
   obtain ⟨d,hd⟩:∃ d,d=min x.size 39:=⟨_,rfl⟩
   have hd0:(if 39<(x.size:Int) then 39 else (x.size:Int))=(d:Int):=by split <;> omega
   have hds:d≤x.size:=by omega
   have hdp:0<d:=by omega
   have HT:=Lib.hid (ln_take x d 39 hd)
   have HD:=Lib.hid (ln_drop x d 39 hd)
   have N1:=Lib.hid (FK_next HK.out (ne_of_size h0))
   clear hd
   have q1:x.size≤140737488351232:=by omega
   have L:=FK_len HK.out
   rw [List.length_map] at L
   have L2:s.data.toList.length=s.size:=rfl
   rw [L2] at L
   have L3:(xs.length + 1) * 16≤140737488355328:=by omega
   have HO1:=Lib.hid (own_below HO.out (Below.refl _ wr))
   have sz:=hB.size
   clear L L2
   go_wp2_with (at_builtin;refine wpList_append_own _ rfl _ _ 61 rfl w.heap.size 9 i0 (.string ByteArray.empty) 1 16 Tryz.underlying61 hi hz0 hz1 hz2 rfl (by decide) _ _ _ rfl (HO1.out.alloc _) ⟨wr.heap.size,0,none⟩ 1 1 [.string ((⟨#[32]⟩:ByteArray)++x.extract 0 d)] rfl rfl ?c1 ?c2 ?c3 ?c4 ?c5 ?_)
   case c1=>
    intro j u hj
    match j,hj with
    | 0,hj=>simp at hj;subst hj;simp [Addr.add]
   case c2=>intro u hu;simp at hu;subst hu;rfl
   case c3=>unfold maxLen;omega
   case c4=>exact L3
   case c5=>simp;omega
   intro v' w2 hown' hgrow _
   have R:=own_next hB.size hB (Below.refl _ wr) HO.out hown' hgrow
   have R1:=Lib.hid R.1
   have R2:=Lib.hid R.2
   clear R hown' hgrow HO1 HO
   go_wp2
   go_roundw
   case rel=>
    refine ⟨_,_,_,rfl,rfl,?_,?_,by rw [List.length_append];exact R1.out,R2.out⟩
    ·simp;omega
    ·rw [HD.out,List.map_append]
     show FK _ _ (_++[((⟨#[32]⟩:ByteArray)++x.extract 0 d).data.toList])
     rw [blank_app,HT.out]
     exact N1.out
   case measure=>simp [sLen];omega
end Go.Proofs.YtcadomjkjoiakaaGreatDoor
namespace Go.Proofs.YtcadomjkjoiakaaGreatDoor
open Go.RowKit Cal Ln
def Mrk (w:World):Prop:=w.cell? ⟨1,0,none⟩=some (.int .u8 92)∧w.cell? ⟨1,1,none⟩=some (.int .u8 92)∧w.cell? ⟨1,2,none⟩=some (.int .u8 59)∧w.cell? ⟨1,3,none⟩=some (.int .u8 59)∧w.cell? ⟨1,4,none⟩=some (.int .u8 44)∧w.cell? ⟨1,5,none⟩=some (.int .u8 44)∧w.cell? ⟨1,6,none⟩=some (.int .u8 10)∧w.cell? ⟨1,7,none⟩=some (.int .u8 110)
theorem Mrk.pos {w:World} (h:Mrk w):1<w.heap.size:=by
 have k:=h.1
 rcases Nat.lt_or_ge 1 w.heap.size with q | q
 ·exact q
 ·simp [World.cell?,Array.getElem?_eq_none q] at k
theorem Mrk.below {w w':World} (h:Mrk w) (b:Below w.heap.size w w'):Mrk w':=by
 have hp:=h.pos
 obtain ⟨a0,a1,a2,a3,a4,a5,a6,a7⟩:=h
 exact ⟨(b.cell (p:=⟨1,0,none⟩) hp).trans a0,(b.cell (p:=⟨1,1,none⟩) hp).trans a1,(b.cell (p:=⟨1,2,none⟩) hp).trans a2,(b.cell (p:=⟨1,3,none⟩) hp).trans a3,(b.cell (p:=⟨1,4,none⟩) hp).trans a4,(b.cell (p:=⟨1,5,none⟩) hp).trans a5,(b.cell (p:=⟨1,6,none⟩) hp).trans a6,(b.cell (p:=⟨1,7,none⟩) hp).trans a7⟩
theorem mark_0 (W:World):(Instr.index 198 (.agg #[.int .u8 92,.int .u8 92,.int .u8 59,.int .u8 59,.int .u8 44,.int .u8 44,.int .u8 10,.int .u8 110]) (.int .i64 0)).run Tryz.prog W=.ok (.agg #[.int .u8 92,.int .u8 92]) W:=by kernel_rfl
theorem mark_1 (W:World):(Instr.index 198 (.agg #[.int .u8 92,.int .u8 92,.int .u8 59,.int .u8 59,.int .u8 44,.int .u8 44,.int .u8 10,.int .u8 110]) (.int .i64 1)).run Tryz.prog W=.ok (.agg #[.int .u8 59,.int .u8 59]) W:=by kernel_rfl
theorem mark_2 (W:World):(Instr.index 198 (.agg #[.int .u8 92,.int .u8 92,.int .u8 59,.int .u8 59,.int .u8 44,.int .u8 44,.int .u8 10,.int .u8 110]) (.int .i64 2)).run Tryz.prog W=.ok (.agg #[.int .u8 44,.int .u8 44]) W:=by kernel_rfl
theorem mark_3 (W:World):(Instr.index 198 (.agg #[.int .u8 92,.int .u8 92,.int .u8 59,.int .u8 59,.int .u8 44,.int .u8 44,.int .u8 10,.int .u8 110]) (.int .i64 3)).run Tryz.prog W=.ok (.agg #[.int .u8 10,.int .u8 110]) W:=by kernel_rfl
theorem ln_drewN {B:Nat} {w wr:World} (h:Below B w wr) (q:Nat):Below B w (wr.drewN q):=⟨h.1,h.2,h.3,h.4,h.5⟩
def lo (b:UInt8):Int:=(((lof b).getD 0).toNat:Int)
def lb (b:UInt8):Bool:=(lof b).isSome
theorem u8_ne {b c:UInt8} (h:¬ b=c):¬ (c.toNat:Int)=(b.toNat:Int):=by
 intro k
 exact h (UInt8.toNat_inj.1 (by omega))
def lofK (b:UInt8):Nat→Prop
 | 0=>True
 | 1=>¬ b=92
 | 2=>¬ b=92∧¬ b=59
 | 3=>¬ b=92∧¬ b=59∧¬ b=44
 | _=>lof b=none
theorem lofK_4 {b:UInt8} (h:lofK b 3) (h4:¬ b=10):lofK b 4:=by
 obtain ⟨h1,h2,h3⟩:=h
 show lof b=none
 unfold lof
 rw [if_neg h1,if_neg h2,if_neg h3,if_neg h4]
set_option maxRecDepth 100000 in
set_option maxHeartbeats 2000000 in
theorem letterOf_any (b:UInt8) (w:World) (hM:Mrk w) :
 Calls Tryz.prog 101 #[.int .u8 (b.toNat:Int)] w fun e w'=>e=.returned (.tuple #[.int .u8 (lo b),.bool (lb b)])∧Below w.heap.size w w':=by
 obtain ⟨a0,a1,a2,a3,a4,a5,a6,a7⟩:=hM
 go_enter Tryz.func101,Tryz.ntmps101
 go_wp2
 go_loopw [7] (fun i wr=>∃ k:Nat,i=.int .i64 k∧Below w.heap.size w wr∧lofK b k∧(k=0∨k=1∨k=2∨k=3∨k=4)) (fun i _=>4 - (intOf i).toNat)
 case atStart=>exact ⟨0,rfl,Below.refl _ _,trivial,Or.inl rfl⟩
 case round=>
  clear a0 a1 a2 a3 a4 a5 a6 a7
  obtain ⟨k,rfl,hb,hl,hk⟩:=hrel
  have HL:=Lib.hid hl
  clear hl
  rcases hk with rfl | hk
  ·have ix:=mark_0
   by_cases e0:b=92
   ·subst e0
    go_wp2
    go_ret2
    exact ⟨rfl,(hb.alloc hb.size _)⟩
   ·have p0:¬ (92:Int)=(b.toNat:Int):=u8_ne e0
    have NX:=Lib.hid (show lofK b 1 from (show ¬ b=92 from e0))
    clear e0
    go_wp2
    go_roundw
    case rel=>exact ⟨1,by go_num,(hb.alloc hb.size _),NX.out,by omega⟩
    case measure=>simp [intOf]
  rcases hk with rfl | hk
  ·have ix:=mark_1
   by_cases e0:b=59
   ·subst e0
    go_wp2
    go_ret2
    exact ⟨rfl,(hb.alloc hb.size _)⟩
   ·have p0:¬ (59:Int)=(b.toNat:Int):=u8_ne e0
    have NX:=Lib.hid (show lofK b 2 from ⟨HL.out,e0⟩)
    clear e0
    go_wp2
    go_roundw
    case rel=>exact ⟨2,by go_num,(hb.alloc hb.size _),NX.out,by omega⟩
    case measure=>simp [intOf]
  rcases hk with rfl | hk
  ·have ix:=mark_2
   by_cases e0:b=44
   ·subst e0
    go_wp2
    go_ret2
    exact ⟨rfl,(hb.alloc hb.size _)⟩
   ·have p0:¬ (44:Int)=(b.toNat:Int):=u8_ne e0
    have NX:=Lib.hid (show lofK b 3 from ⟨HL.out.1,HL.out.2,e0⟩)
    clear e0
    go_wp2
    go_roundw
    case rel=>exact ⟨3,by go_num,(hb.alloc hb.size _),NX.out,by omega⟩
    case measure=>simp [intOf]
  rcases hk with rfl | hk
  ·have ix:=mark_3
   by_cases e0:b=10
   ·subst e0
    go_wp2
    go_ret2
    exact ⟨rfl,(hb.alloc hb.size _)⟩
   ·have p0:¬ (10:Int)=(b.toNat:Int):=u8_ne e0
    have NX:=Lib.hid (show lofK b 4 from lofK_4 HL.out e0)
    clear e0
    go_wp2
    go_roundw
    case rel=>exact ⟨4,by go_num,(hb.alloc hb.size _),NX.out,by omega⟩
    case measure=>simp [intOf]
  obtain rfl:k=4:=hk
  have hn:lof b=none:=HL.out
  have e1:lo b=0:=by unfold lo;rw [hn];rfl
  have e2:lb b=false:=by unfold lb;rw [hn];rfl
  have E1:=Lib.hid e1
  have E2:=Lib.hid e2
  clear hn e1 e2
  go_wp2
  go_ret2
  exact ⟨by rw [E1.out,E2.out];rfl,hb⟩
theorem lb_no {b:UInt8} (h:lof b=none):lb b=false:=by unfold lb;rw [h];rfl
theorem lo_yes {b c:UInt8} (h:lof b=some c):lo b=(c.toNat:Int):=by unfold lo;rw [h];rfl
theorem lb_yes {b c:UInt8} (h:lof b=some c):lb b=true:=by unfold lb;rw [h];rfl
def bofK (b:UInt8):Nat→Prop
 | 0=>True
 | 1=>¬ b=92
 | 2=>¬ b=92∧¬ b=59
 | 3=>¬ b=92∧¬ b=59∧¬ b=44
 | _=>bof b=none
theorem bofK_4 {b:UInt8} (h:bofK b 3) (h4:¬ b=110):bofK b 4:=by
 obtain ⟨h1,h2,h3⟩:=h
 show bof b=none
 unfold bof
 rw [if_neg h1,if_neg h2,if_neg h3,if_neg h4]
theorem two_of (s:ByteArray) (h:2≤s.size):∃ r,s.data.toList=s[0] :: s[1] :: r:=by
 refine ⟨s.data.toList.drop 2,?_⟩
 have h2:1<s.data.toList.length:=by show 1<s.size;omega
 have e:=List.drop_eq_getElem_cons (i:=1) (l:=s.data.toList) h2
 have e0:=List.drop_eq_getElem_cons (i:=0) (l:=s.data.toList) (by omega)
 rw [List.drop_zero] at e0
 rw [e0,e];rfl
theorem one_of (s:ByteArray) (h:0<s.size):∃ r,s.data.toList=s[0] :: r:=by
 refine ⟨s.data.toList.drop 1,?_⟩
 have e0:=List.drop_eq_getElem_cons (i:=0) (l:=s.data.toList) h
 rw [List.drop_zero] at e0
 rw [e0];rfl
theorem last_of (s:ByteArray) (h:s.size=1):s.data.toList=[s[0]]:=by
 obtain ⟨r,hr⟩:=one_of s (by omega)
 have:s.data.toList.length=1:=h
 rw [hr] at this ⊢
 simp at this
 rw [this]
def FbA (s:ByteArray) (w:World) (e:Ending) (w':World):Prop:=e=.returned (.tuple #[.int .u8 ((fb s.data.toList).1.toNat:Int),.int .i64 ((fb s.data.toList).2:Int)])∧Below w.heap.size w w'
theorem FbA.mk {s:ByteArray} {w w':World} {e:Ending} {b:UInt8} {n:Nat} (h:fb s.data.toList=(b,n)) (he:e=.returned (.tuple #[.int .u8 (b.toNat:Int),.int .i64 (n:Int)])) (hb:Below w.heap.size w w'):FbA s w e w':=by
 unfold FbA;rw [h];exact ⟨he,hb⟩
set_option maxRecDepth 100000 in
set_option maxHeartbeats 2000000 in
theorem firstByte_any (s:ByteArray) (w:World) (hM:Mrk w) (hs:0<s.size) :
 Calls Tryz.prog 210 #[.string s] w (FbA s w):=by
 obtain ⟨r0,hr0⟩:=one_of s hs
 have HR0:=Lib.hid hr0
 clear hr0
 obtain ⟨b,hb0⟩:∃ b,b=s[0]:=⟨_,rfl⟩
 have hb1:(s[0].toNat:Int)=(b.toNat:Int):=by rw [hb0]
 have HB0:=Lib.hid hb0
 clear hb0
 cases hl:lof b with
 | none=>
   have e1:=lb_no hl
   have F:=Lib.hid (show fb s.data.toList=(b,1) by rw [HR0.out,← HB0.out];exact fb_plain hl)
   go_enter Tryz.func210,Tryz.ntmps210
   go_wp2_with (go_at_call 101;refine (letterOf_any b w hM).mono ?_;rintro e w1 ⟨rfl,hb⟩)
   go_ret2
   exact FbA.mk F.out rfl hb
 | some c=>
   have e1:=lb_yes hl
   by_cases h92:b=92
   ·subst h92
    by_cases h1:s.size=1
    ·have F:=Lib.hid (show fb s.data.toList=(0,0) by rw [last_of s h1,← HB0.out];exact fb_last)
     go_enter Tryz.func210,Tryz.ntmps210
     go_wp2_with (go_at_call 101;refine (letterOf_any 92 w hM).mono ?_;rintro e w1 ⟨rfl,hb⟩)
     go_ret2
     exact FbA.mk F.out rfl hb
    ·have h2:2≤s.size:=by omega
     obtain ⟨r,hr⟩:=two_of s h2
     obtain ⟨d,hd⟩:∃ d,d=s[1]:=⟨_,rfl⟩
     have hd1:(s[1].toNat:Int)=(d.toNat:Int):=by rw [hd]
     have HR:=Lib.hid (show s.data.toList=92 :: d :: r by rw [hr,hd,← HB0.out])
     clear hd hr
     have h1n:¬ (s.size:Int)=1:=by omega
     go_enter Tryz.func210,Tryz.ntmps210
     go_wp2_with (go_at_call 101;refine (letterOf_any 92 w hM).mono ?_;rintro e w1 ⟨rfl,hb⟩;obtain ⟨a0,a1,a2,a3,a4,a5,a6,a7⟩:=hM.below hb)
     go_loopw [27] (fun i wr=>∃ k:Nat,i=.int .i64 k∧Below w.heap.size w wr∧bofK d k∧(k=0∨k=1∨k=2∨k=3∨k=4)) (fun i _=>4 - (intOf i).toNat)
     case atStart=>exact ⟨0,rfl,hb,trivial,Or.inl rfl⟩
     case round=>
      clear a0 a1 a2 a3 a4 a5 a6 a7 hb hM
      obtain ⟨k,rfl,hb,hl,hk⟩:=hrel
      have HL:=Lib.hid hl
      clear hl
      rcases hk with rfl | hk
      ·have ix:=mark_0
       by_cases e0:d=92
       ·subst e0
        have F:=Lib.hid (show fb s.data.toList=(92,2) by rw [HR.out];exact fb_two rfl)
        go_wp2
        go_quiet (fail)
        go_wp2
        go_ret2
        exact FbA.mk F.out rfl (ln_drewN (hb.alloc hb.size _) _)
       ·have p0:¬ (92:Int)=(d.toNat:Int):=u8_ne e0
        have NX:=Lib.hid (show bofK d 1 from (show ¬ d=92 from e0))
        clear e0
        go_wp2
        go_quiet (fail)
        go_wp2
        go_roundw
        case rel=>exact ⟨1,by go_num,(ln_drewN (hb.alloc hb.size _) _),NX.out,by omega⟩
        case measure=>simp [intOf]
      rcases hk with rfl | hk
      ·have ix:=mark_1
       by_cases e0:d=59
       ·subst e0
        have F:=Lib.hid (show fb s.data.toList=(59,2) by rw [HR.out];exact fb_two rfl)
        go_wp2
        go_quiet (fail)
        go_wp2
        go_ret2
        exact FbA.mk F.out rfl (ln_drewN (hb.alloc hb.size _) _)
       ·have p0:¬ (59:Int)=(d.toNat:Int):=u8_ne e0
        have NX:=Lib.hid (show bofK d 2 from ⟨HL.out,e0⟩)
        clear e0
        go_wp2
        go_quiet (fail)
        go_wp2
        go_roundw
        case rel=>exact ⟨2,by go_num,(ln_drewN (hb.alloc hb.size _) _),NX.out,by omega⟩
        case measure=>simp [intOf]
      rcases hk with rfl | hk
      ·have ix:=mark_2
       by_cases e0:d=44
       ·subst e0
        have F:=Lib.hid (show fb s.data.toList=(44,2) by rw [HR.out];exact fb_two rfl)
        go_wp2
        go_quiet (fail)
        go_wp2
        go_ret2
        exact FbA.mk F.out rfl (ln_drewN (hb.alloc hb.size _) _)
       ·have p0:¬ (44:Int)=(d.toNat:Int):=u8_ne e0
        have NX:=Lib.hid (show bofK d 3 from ⟨HL.out.1,HL.out.2,e0⟩)
        clear e0
        go_wp2
        go_quiet (fail)
        go_wp2
        go_roundw
        case rel=>exact ⟨3,by go_num,(ln_drewN (hb.alloc hb.size _) _),NX.out,by omega⟩
        case measure=>simp [intOf]
      rcases hk with rfl | hk
      ·have ix:=mark_3
       by_cases e0:d=110
       ·subst e0
        have F:=Lib.hid (show fb s.data.toList=(10,2) by rw [HR.out];exact fb_two rfl)
        go_wp2
        go_quiet (fail)
        go_wp2
        go_ret2
        exact FbA.mk F.out rfl (ln_drewN (hb.alloc hb.size _) _)
       ·have p0:¬ (110:Int)=(d.toNat:Int):=u8_ne e0
        have NX:=Lib.hid (show bofK d 4 from bofK_4 HL.out e0)
        clear e0
        go_wp2
        go_quiet (fail)
        go_wp2
        go_roundw
        case rel=>exact ⟨4,by go_num,(ln_drewN (hb.alloc hb.size _) _),NX.out,by omega⟩
        case measure=>simp [intOf]
      obtain rfl:k=4:=hk
      have F:=Lib.hid (show fb s.data.toList=(0,0) by rw [HR.out];exact fb_bad HL.out)
      go_wp2
      go_ret2
      exact FbA.mk F.out rfl hb
   ·have F:=Lib.hid (show fb s.data.toList=(0,0) by rw [HR0.out,← HB0.out];exact fb_other hl h92)
    have p0:¬ (b.toNat:Int)=92:=fun k=>h92 (UInt8.toNat_inj.1 (by show b.toNat=92;omega))
    clear h92
    go_enter Tryz.func210,Tryz.ntmps210
    go_wp2_with (go_at_call 101;refine (letterOf_any b w hM).mono ?_;rintro e w1 ⟨rfl,hb⟩)
    go_ret2
    exact FbA.mk F.out rfl hb
end Go.Proofs.YtcadomjkjoiakaaGreatDoor
namespace Go.Proofs.YtcadomjkjoiakaaGreatDoor
open Go.RowKit Cal Ln
theorem info_u8:(Tryz.prog.info? 5).map (fun i=>(i.zero,i.size,i.bytes))=some (some (.int .u8 0),1,1):=by kernel_rfl
theorem own_conv {W:World} {base g cap n:Nat} {l:List UInt8} (h:W.ownsRow base 5 1 (.slice (some ⟨g,0,none⟩) n cap) n (Lib.byteCells l)) :
 (convert 55 9 (.slice (some ⟨g,0,none⟩) n cap)).run Tryz.prog W=.ok (.string (tb l)) W:=by
 have hl:l.length=n:=by have:=h.1;simpa [Lib.byteCells] using this
 have hcv:∀ j (hj:j<l.length),W.cell? ((⟨g,0,none⟩:Addr).add j)=some (.int .u8 (l[j].toNat:Int)):=by
  intro j hj
  have e:(⟨g,0,none⟩:Addr).add j=⟨g,j,none⟩:=by unfold Addr.add;split <;> simp_all
  rw [e,h.cellAt j (by omega)]
  simp [Lib.byteCells,hj]
 have cv:=run_convert_bytes_back W 55 9 5 ⟨g,0,none⟩ cap l Tryz.underlying55 Tryz.underlying5 Tryz.underlying9 hcv
 rw [hl] at cv
 exact cv
theorem own_seen {W:World} {base n:Nat} {v:Value} {xs:List Value} (h:W.ownsRow base 5 1 v n xs) (hn:¬ v=.slice none 0 0):∃ g cap,v=.slice (some ⟨g,0,none⟩) n cap:=by
 rcases h.2 with ⟨a,_⟩ | ⟨g,cap,_,a,_⟩
 ·exact absurd a hn
 ·exact ⟨g,cap,a⟩
theorem bytes_snoc1 (l:List UInt8) (b:UInt8):Lib.byteCells l++[.int .u8 (b.toNat:Int)]=Lib.byteCells (l++[b]):=by simp [Lib.byteCells]
theorem bytes_snoc2 (l:List UInt8) (b c:UInt8):Lib.byteCells l++[.int .u8 (b.toNat:Int),.int .u8 (c.toNat:Int)]=Lib.byteCells (l++[b,c]):=by simp [Lib.byteCells]
theorem grown_on {w wr w1 w2:World} {B:Nat} {v:Value} {n:Nat} {e:TypeId} {xs:List Value} {o:Obj} (hB:B≤wr.heap.size) (hb:Below B w wr) (hx:Below wr.heap.size wr w1) (hown:wr.ownsRow B e 1 v n xs) (hgrow:(w1.alloc o).grownBy w2 v.ownBlock):Below B w w2:=by
 have h1:Below B w w1:=hb.trans (hx.mono hB)
 have hs:=hx.size
 refine (h1.alloc (by omega) o).grown hgrow (by simp;omega) (fun j hj=>?_)
 have:=(hown.lt j hj).1
 omega
set_option maxRecDepth 100000 in
set_option maxHeartbeats 2000000 in
theorem escape_any (s:ByteArray) (w:World) (hM:Mrk w) (hs:s.size≤4194304) :
 Calls Tryz.prog 65 #[.string s] w fun e w'=>e=.returned (.string (tb (esc s.data.toList)))∧Below w.heap.size w w':=by
 obtain ⟨i0,hi,hz0,hz1,hz2⟩:=info_parts info_u8
 have HM:=Lib.hid hM
 clear hM
 go_enter Tryz.func65,Tryz.ntmps65
 go_wp2_with (at_make;refine wpList_make_own _ rfl _ _ 55 rfl w.heap.size 5 i0 (.int .u8 0) 1 Tryz.underlying55 hi hz0 hz1 _ _ _ s.size rfl rfl rfl ?b2 ?b3 (Nat.le_refl _) ?_)
 case b2=>rw [hz2];omega
 case b3=>unfold maxLen;omega
 intro w0 hown0 hgrow0
 have hB0:Below w.heap.size w w0:=(Below.refl _ _).grown hgrow0 (Nat.le_refl _) (fun k h=>by cases h)
 have HB0:=Lib.hid hB0
 have HO0:=Lib.hid hown0
 clear hown0 hgrow0 hB0
 go_wp2
 go_loopw [3,12] (fun v i wr=>∃ k:Nat,k≤s.size∧i=.int .i64 k∧wr.ownsRow w.heap.size 5 1 v (esc (s.data.toList.take k)).length (Lib.byteCells (esc (s.data.toList.take k)))∧(¬ v=.slice none 0 0)∧Below w.heap.size w wr) (fun _ i _=>s.size - (intOf i).toNat)
 case atStart=>exact ⟨0,Nat.zero_le _,rfl,HO0.out,by simp,HB0.out⟩
 case round=>
  clear HO0 HB0
  obtain ⟨k,hk,rfl,hown,hnn,hB⟩:=hrel
  have HO:=Lib.hid hown
  have HN:=Lib.hid hnn
  clear hown hnn
  by_cases hlt:k<s.size
  ·obtain ⟨b,hb0⟩:∃ b,b=s[k]:=⟨_,rfl⟩
   have hb1:(s[k].toNat:Int)=(b.toNat:Int):=by rw [hb0]
   have T1:=Lib.hid (show esc (s.data.toList.take (k + 1))=esc (s.data.toList.take k)++esc1 b by rw [take_snoc s k hlt,← hb0];exact esc_snoc _ _)
   clear hb0
   have L:=esc_len (s.data.toList.take k)
   rw [List.length_take] at L
   have L2:(esc (s.data.toList.take k)).length≤8388608:=by omega
   clear L
   have sz:=hB.size
   cases hl:lof b with
   | none=>
     have e1:=lb_no hl
     have T2:=Lib.hid (show esc1 b=[b] from esc1_none hl)
     clear hl
     go_wp2_with fail
     refine (letterOf_any b _ (HM.out.below hB)).mono ?_
     rintro e w1 ⟨rfl,hb⟩
     have HO1:=Lib.hid (own_below HO.out hb)
     have sz1:=hb.size
     have HB1:=Lib.hid hb
     clear hb
     go_wp2_with (at_builtin;refine wpList_append_own _ rfl _ _ 55 rfl w.heap.size 5 i0 (.int .u8 0) 1 1 Tryz.underlying55 hi hz0 hz1 hz2 rfl (by decide) _ _ _ rfl (HO1.out.alloc _) ⟨w1.heap.size,0,none⟩ 1 1 [.int .u8 (b.toNat:Int)] rfl rfl ?c1 ?c2 ?c3 ?c4 ?c5 ?_)
     case c1=>
      intro j u hj
      match j,hj with
      | 0,hj=>simp at hj;subst hj;simp [Addr.add]
     case c2=>intro u hu;simp at hu;subst hu;rfl
     case c3=>unfold maxLen;omega
     case c4=>omega
     case c5=>simp;omega
     intro v' w2 hown' hgrow hnil
     rw [bytes_snoc1] at hown'
     have N1:=Lib.hid (show ¬ v'=.slice none 0 0 from hnil)
     have R2:=Lib.hid (grown_on hB.size hB HB1.out HO.out hgrow)
     have R1:=Lib.hid hown'
     clear hown' hgrow HO1 HO hnil
     go_wp2
     go_roundw
     case rel=>exact ⟨k + 1,by omega,by go_num,by rw [T1.out,T2.out];simpa using R1.out,N1.out,R2.out⟩
     case measure=>simp [intOf];omega
   | some c=>
     have e1:=lb_yes hl
     have e2:=lo_yes hl
     have T2:=Lib.hid (show esc1 b=[92,c] from esc1_some hl)
     clear hl
     go_wp2_with fail
     refine (letterOf_any b _ (HM.out.below hB)).mono ?_
     rintro e w1 ⟨rfl,hb⟩
     have HO1:=Lib.hid (own_below HO.out hb)
     have sz1:=hb.size
     have HB1:=Lib.hid hb
     clear hb
     go_wp2_with (at_builtin;refine wpList_append_own _ rfl _ _ 55 rfl w.heap.size 5 i0 (.int .u8 0) 1 1 Tryz.underlying55 hi hz0 hz1 hz2 rfl (by decide) _ _ _ rfl (HO1.out.alloc _) ⟨w1.heap.size,0,none⟩ 2 2 [.int .u8 92,.int .u8 (c.toNat:Int)] rfl rfl ?d1 ?d2 ?d3 ?d4 ?d5 ?_)
     case d1=>
      intro j u hj
      match j,hj with
      | 0,hj=>simp at hj;subst hj;simp [Addr.add]
      | 1,hj=>simp at hj;subst hj;simp [Addr.add]
     case d2=>intro u hu;simp at hu;rcases hu with rfl | rfl <;> rfl
     case d3=>unfold maxLen;omega
     case d4=>omega
     case d5=>simp;omega
     intro v' w2 hown' hgrow hnil
     rw [show ([.int .u8 92,.int .u8 (c.toNat:Int)]:List Value)=[.int .u8 ((92:UInt8).toNat:Int),.int .u8 (c.toNat:Int)] from rfl,bytes_snoc2] at hown'
     have N1:=Lib.hid (show ¬ v'=.slice none 0 0 from hnil)
     have R2:=Lib.hid (grown_on hB.size hB HB1.out HO.out hgrow)
     have R1:=Lib.hid hown'
     clear hown' hgrow HO1 HO hnil
     go_wp2
     go_roundw
     case rel=>exact ⟨k + 1,by omega,by go_num,by rw [T1.out,T2.out];simpa using R1.out,N1.out,R2.out⟩
     case measure=>simp [intOf];omega
  ·obtain ⟨g,cap,rfl⟩:=own_seen HO.out HN.out
   have e:s.data.toList.take k=s.data.toList:=List.take_of_length_le (by show s.size≤k;omega)
   rw [e] at HO
   have cv:=own_conv HO.out
   rw [e]
   clear e
   go_wp2
   go_ret
   exact ⟨rfl,hB⟩
def plV (s:ByteArray):ByteArray:=tb ((pln s.data.toList).getD [])
def plF (s:ByteArray):Int:=if (pln s.data.toList).isSome then 0 else 2
theorem plV_some {s:ByteArray} {c:List UInt8} (h:pln s.data.toList=some c):plV s=tb c:=by unfold plV;rw [h];rfl
theorem plF_some {s:ByteArray} {c:List UInt8} (h:pln s.data.toList=some c):plF s=0:=by unfold plF;rw [h];rfl
theorem plV_none {s:ByteArray} (h:pln s.data.toList=none):plV s=⟨#[]⟩:=by unfold plV;rw [h];rfl
theorem plF_none {s:ByteArray} (h:pln s.data.toList=none):plF s=2:=by unfold plF;rw [h];rfl
theorem ln_drop2 (x:ByteArray) (c:Nat):(x.extract c x.size).data.toList=x.data.toList.drop c:=by
 rw [ByteArray.data_extract,Array.toList_extract,List.extract_eq_take_drop]
 exact List.take_of_length_le (by rw [List.length_drop];exact Nat.le_refl _)
set_option maxRecDepth 100000 in
set_option maxHeartbeats 2000000 in
theorem plain_any (s:ByteArray) (w:World) (hM:Mrk w) (hs:s.size≤4194304) :
 Calls Tryz.prog 167 #[.string s] w fun e w'=>e=.returned (.tuple #[.string (plV s),fault (plF s)])∧Below w.heap.size w w':=by
 obtain ⟨i0,hi,hz0,hz1,hz2⟩:=info_parts info_u8
 have HM:=Lib.hid hM
 clear hM
 go_enter Tryz.func167,Tryz.ntmps167
 go_wp2_with (at_make;refine wpList_make_own _ rfl _ _ 55 rfl w.heap.size 5 i0 (.int .u8 0) 1 Tryz.underlying55 hi hz0 hz1 _ _ _ s.size rfl rfl rfl ?b2 ?b3 (Nat.le_refl _) ?_)
 case b2=>rw [hz2];omega
 case b3=>unfold maxLen;omega
 intro w0 hown0 hgrow0
 have hB0:Below w.heap.size w w0:=(Below.refl _ _).grown hgrow0 (Nat.le_refl _) (fun k h=>by cases h)
 have HB0:=Lib.hid hB0
 have HO0:=Lib.hid hown0
 clear hown0 hgrow0 hB0
 go_wp2
 go_loopw [4,5] (fun v l wr=>∃ (x:ByteArray) (t:List UInt8),l=.string x∧x.size≤s.size∧t.length + x.size≤s.size∧PK s.data.toList x.data.toList t∧wr.ownsRow w.heap.size 5 1 v t.length (Lib.byteCells t)∧(¬ v=.slice none 0 0)∧Below w.heap.size w wr) (fun _ l _=>sLen l)
 case atStart=>exact ⟨s,[],rfl,Nat.le_refl _,by simp,PK_start _,HO0.out,by simp,HB0.out⟩
 case round=>
  clear HO0 HB0
  obtain ⟨x,t,rfl,hx,ht,hK,hown,hnn,hB⟩:=hrel
  have HK:=Lib.hid hK
  have HO:=Lib.hid hown
  have HN:=Lib.hid hnn
  clear hK hown hnn
  by_cases h0:x.size=0
  ·have e0:x=⟨#[]⟩:=ByteArray.ext (Array.eq_empty_of_size_eq_zero h0)
   have E1:=PK_end (by have:=HK.out;rw [nil_of_size h0] at this;exact this)
   have HE:=Lib.hid E1
   clear E1 HK
   obtain ⟨g,cap,rfl⟩:=own_seen HO.out HN.out
   have cv:=own_conv HO.out
   go_wp2
   go_ret2
   exact ⟨by rw [plV_some HE.out,plF_some HE.out];rfl,hB⟩
  ·have p:x.toList.isEmpty=false:=by rw [ByteArray.toList_eq];simpa using ne_of_size h0
   have hp:0<x.size:=by omega
   by_cases hz:(fb x.data.toList).2=0
   ·have HE:=Lib.hid (PK_no HK.out (ne_of_size h0) hz)
    go_wp2_with (go_at_call 210;refine (firstByte_any x _ (HM.out.below hB) hp).mono ?_;rintro e w1 ⟨rfl,hb⟩)
    go_ret2
    exact ⟨by rw [plV_none HE.out,plF_none HE.out];rfl,hB.trans (hb.mono hB.size)⟩
   ·have N1:=Lib.hid (PK_next HK.out (ne_of_size h0) hz)
    obtain ⟨d,hd⟩:∃ d,d=(fb x.data.toList).2:=⟨_,rfl⟩
    obtain ⟨b,hb0⟩:∃ b,b=(fb x.data.toList).1:=⟨_,rfl⟩
    have hle:d≤x.size:=by rw [hd];exact fb_le _
    have hdp:0<d:=by omega
    rw [← hd,← hb0] at N1
    have FB:=Lib.hid (firstByte_any x wr (HM.out.below hB) hp)
    unfold FbA at FB
    rw [← hd,← hb0] at FB
    have hdz:¬ (d:Int)=0:=by omega
    clear hz hd hb0
    go_wp2_with (go_at_call 210;refine FB.out.mono ?_;rintro e w1 ⟨rfl,hb⟩;fail)
    refine FB.out.mono ?_
    rintro e w1 ⟨rfl,hb⟩
    have HO1:=Lib.hid (own_below HO.out hb)
    have sz1:=hb.size
    have sz:=hB.size
    have HB1:=Lib.hid hb
    clear hb FB
    go_wp2_with (at_builtin;refine wpList_append_own _ rfl _ _ 55 rfl w.heap.size 5 i0 (.int .u8 0) 1 1 Tryz.underlying55 hi hz0 hz1 hz2 rfl (by decide) _ _ _ rfl (HO1.out.alloc _) ⟨w1.heap.size,0,none⟩ 1 1 [.int .u8 (b.toNat:Int)] rfl rfl ?c1 ?c2 ?c3 ?c4 ?c5 ?_)
    case c1=>
     intro j u hj
     match j,hj with
     | 0,hj=>simp at hj;subst hj;simp [Addr.add]
    case c2=>intro u hu;simp at hu;subst hu;rfl
    case c3=>unfold maxLen;omega
    case c4=>omega
    case c5=>simp;omega
    intro v' w2 hown' hgrow hnil
    rw [bytes_snoc1] at hown'
    have N2:=Lib.hid (show ¬ v'=.slice none 0 0 from hnil)
    have R2:=Lib.hid (grown_on hB.size hB HB1.out HO.out hgrow)
    have R1:=Lib.hid hown'
    clear hown' hgrow HO1 HO hnil
    go_wp2
    go_roundw
    case rel=>
     refine ⟨x.extract d x.size,t++[b],rfl,by simp;omega,by simp;omega,?_,by simpa using R1.out,N2.out,R2.out⟩
     rw [ln_drop2]
     exact N1.out
    case measure=>simp [sLen];omega
end Go.Proofs.YtcadomjkjoiakaaGreatDoor
