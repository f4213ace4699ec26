/-
  Texts of our own that serve the card of this claim, joined into one.
-/
import Derived.Test.YtcadomjkjoiakaaGreatDoorRM
import Derived.Test.YtcadomjkjoiakaaGreatDoorQH
import Derived.Test.YtcadomjkjoiakaaGreatDoorQK
import Derived.OwnWalk
import Derived.Lib.Join
import Derived.Test.YtcadomjkjoiakaaGreatDoorBD
import Derived.Lib.QuietBelow
import Derived.WalkKit
import Derived.Deep.MidRow
namespace Go.Proofs.YtcadomjkjoiakaaGreatDoor
open Go.RowKit Cal Txt
theorem join_by (xs:List (List UInt8)):Lib.join xs [44]=joinBy 44 xs:=by
 induction xs with
 | nil=>rfl
 | cons a r ih=>
   cases r with
   | nil=>rw [Lib.join_one];rfl
   | cons b r=>
     show _=a++44 :: joinBy 44 (b :: r)
     rw [← ih]
     simp [Lib.join,List.intercalate]
theorem join_len (c:UInt8) (k:Nat):∀ (xs:List (List UInt8)),(∀ x∈xs,x.length≤k)→(joinBy c xs).length≤xs.length * (k + 1)
 | [],_=>by simp [joinBy]
 | [a],h=>by
   have:=h a (by simp)
   show a.length≤1 * (k + 1)
   omega
 | a :: b :: l,h=>by
   have h1:=h a (by simp)
   have h2:=join_len c k (b :: l) (fun x hx=>h x (by simp at hx ⊢;exact Or.inr hx))
   show (a++c :: joinBy c (b :: l)).length≤_
   rw [List.length_append,List.length_cons]
   have:(a :: b :: l).length * (k + 1)=(b :: l).length * (k + 1) + (k + 1):=by rw [List.length_cons,Nat.succ_mul]
   omega
def gat {α:Type} (tx:α→List UInt8) (l:List α) (k:Nat):List ByteArray:=(l.take k).map fun x=>tb (tx x)
theorem gat_len {α:Type} (tx:α→List UInt8) (l:List α) (k:Nat) (h:k≤l.length):(gat tx l k).length=k:=by unfold gat;rw [List.length_map,List.length_take];omega
theorem gat_next {α:Type} (tx:α→List UInt8) (l:List α) (k:Nat) (d:α) (h:k<l.length):gat tx l (k + 1)=gat tx l k++[tb (tx (l.getD k d))]:=by
 unfold gat
 rw [List.take_succ_eq_append_getElem h,List.map_append,List.getD_eq_getElem?_getD,List.getElem?_eq_getElem h];rfl
theorem gat_all {α:Type} (tx:α→List UInt8) (l:List α):(gat tx l l.length).map (·.data.toList)=l.map tx:=by
 unfold gat
 rw [List.take_length,List.map_map]
 exact List.map_congr_left (fun x _=>tb_data _)
theorem itoa_nt (n:Int) (w:World) (hP:Pow w) (h0:-9223372036854775808≤n) (h1:n≤9223372036854775807) :
 Calls Tryz.prog 106 #[.int .i64 n] w fun e w'=>e=.returned (.string (tb (nt n)))∧Below w.heap.size w w':=by
 refine (Tryz.strconv_Itoa n h0 h1 w hP).mono ?_
 rintro e w' ⟨rfl,k,os,rfl⟩
 refine ⟨?_,below_grew w k os⟩
 have:Lib.itoa n=nt n:=by
  unfold Lib.itoa nt
  by_cases h:n<0
  ·rw [if_pos h,if_pos h]
  ·rw [if_neg h,if_neg h,show n.toNat=n.natAbs by omega]
 rw [this];rfl
theorem join_nil0 (a:Option Addr) (c:Nat) (w:World):Calls Tryz.prog 105 #[.slice a 0 c,.string ⟨#[44]⟩] w fun e w'=>e=.returned (.string ⟨#[]⟩)∧w'=w:=Any.strings_Join_none Tryz.lays156 Tryz.Builder_Extra_156 a c _ w
theorem join_any {α:Type} (tx:α→List UInt8) (l:List α) (g n c:Nat) (w:World) (hl:l.length=n) (hb:n≤100) (hs:∀ x∈l,(tx x).length≤30) (hcells:∀ (j:Nat) x,(gat tx l n)[j]?=some x→w.cell? ⟨g,0 + j,none⟩=some (.string x)) (hg:g<w.heap.size) (hc:n≤c) :
 Calls Tryz.prog 105 #[.slice (some ⟨g,0,none⟩) n c,.string ⟨#[44]⟩] w fun e w'=>e=.returned (.string (tb (lt tx l)))∧Below w.heap.size w w':=by
 subst hl
 have e1:Lib.join ((gat tx l l.length).map (·.data.toList)) [44]=lt tx l:=by rw [gat_all,join_by];rfl
 have e2:(lt tx l).length≤100 * 31:=by
  have:=join_len 44 30 (l.map tx) (fun x hx=>by obtain ⟨y,hy,rfl⟩:=List.mem_map.1 hx;exact hs y hy)
  rw [List.length_map] at this
  unfold lt
  have h2:l.length * 31≤100 * 31:=Nat.mul_le_mul_right _ hb
  omega
 have h:=Tryz.strings_Join g 0 c (gat tx l l.length) ⟨#[44]⟩ w hcells hg (by rw [gat_len _ _ _ (Nat.le_refl _)];omega) (by rw [gat_len _ _ _ (Nat.le_refl _)];exact hc) (by show (Lib.join _ [44]).length≤_;rw [e1];omega)
 rw [gat_len _ _ _ (Nat.le_refl _)] at h
 refine h.mono ?_
 rintro e w' ⟨rfl,hb⟩
 exact ⟨by show Ending.returned (.string ⟨(Lib.join _ [44]).toArray⟩)=_;rw [e1];rfl,hb⟩
end Go.Proofs.YtcadomjkjoiakaaGreatDoor
namespace Go.Proofs.YtcadomjkjoiakaaGreatDoor
open Go.RowKit Cal Txt
set_option maxRecDepth 100000 in
set_option maxHeartbeats 2000000 in
theorem printList_int (g:FuncId) (tx:Int→List UInt8) (eg:∀ args w,(callFunc g args).run Tryz.prog w=.ok (.enter g args) w) (v:Value) (l:List (Int)) (w:World) (hv:Ints w v l) (hl:l.length≤100) (hs:∀ x∈l,(tx x).length≤30)
 (hg:∀ (x:Int),x∈l→∀ W,Below w.heap.size w W→Calls Tryz.prog g #[.int .i64 x] W fun e w'=>e=.returned (.string (tb (tx x)))∧Below W.heap.size W w') :
 Calls Tryz.prog 203 #[v,.func (.func g) #[] #[]] w fun e w'=>e=.returned (.string (tb (lt tx l)))∧Below w.heap.size w w':=by
 obtain ⟨i0,hi,hz0,hz1,hz2⟩:=info_parts info_str
 have HV:=Lib.hid hv
 have HG:=Lib.hid hg
 have HS:=Lib.hid hs
 clear hg hs
 obtain ⟨a,cap,rfl,hc⟩:=hv
 rcases hc with rfl | ⟨b,off,rfl,hc⟩
 ·go_enter Tryz.func203,Tryz.ntmps203
  go_wp2_with (at_make;refine wpList_make_own _ rfl _ _ 61 rfl w.heap.size 9 i0 (.string ByteArray.empty) 1 Tryz.underlying61 hi hz0 hz1 _ _ _ 0 rfl rfl (by simp) ?b2 ?b3 (Nat.le_refl _) ?_)
  case b2=>rw [hz2];omega
  case b3=>unfold maxLen;omega
  intro w0 hown0 hgrow0
  have hB0:Below w.heap.size w w0:=(Below.refl _ _).grown hgrow0 (Nat.le_refl _) (fun k h=>by cases h)
  clear hown0 hgrow0
  go_wp2
  go_loop [5,13] (fun v i=>v=.slice (some ⟨w.heap.size,0,none⟩) 0 0∧i=.int .i64 0) (fun _ _=>0)
  case atStart=>exact ⟨rfl,rfl⟩
  case round=>
   obtain ⟨rfl,rfl⟩:=hrel
   go_wp2_with fail
   refine (join_nil0 _ _ _).mono ?_
   rintro e w2 ⟨rfl,hw⟩
   subst hw
   go_wp2
   go_ret
   exact ⟨rfl,hB0⟩
 ·clear hc
  go_enter Tryz.func203,Tryz.ntmps203
  go_wp2_with (at_make;refine wpList_make_own _ rfl _ _ 61 rfl w.heap.size 9 i0 (.string ByteArray.empty) 1 Tryz.underlying61 hi hz0 hz1 _ _ _ l.length rfl rfl rfl ?b2 ?b3 (Nat.le_refl _) ?_)
  case b2=>rw [hz2];omega
  case b3=>unfold maxLen;omega
  intro w0 hown0 hgrow0
  have hB0:Below w.heap.size w w0:=(Below.refl _ _).grown hgrow0 (Nat.le_refl _) (fun k h=>by cases h)
  have HB0:=Lib.hid hB0
  have HO0:=Lib.hid hown0
  clear hown0 hgrow0 hB0
  go_wp2
  go_loopw [5,13] (fun v i wr=>∃ k:Nat,k≤l.length∧i=.int .i64 k∧wr.ownsRow w.heap.size 9 1 v k (strs (gat tx l k))∧Below w.heap.size w wr) (fun _ i _=>l.length - (intOf i).toNat)
  case atStart=>exact ⟨0,Nat.zero_le _,rfl,HO0.out,HB0.out⟩
  case round=>
   clear HO0 HB0
   obtain ⟨k,hk,rfl,hown,hB⟩:=hrel
   have HO:=Lib.hid hown
   clear hown
   by_cases hlt:k<l.length
   ·obtain ⟨a',c',e',hc⟩:=HV.out.on hB
    rcases hc with hc | ⟨b',off',ea,hc⟩
    ·rw [hc] at hlt;simp at hlt
    obtain ⟨⟨rfl,rfl⟩,rfl⟩:(b=b'∧off=off')∧cap=c':=by simpa [ea] using e'
    have ck:=hc k hlt
    obtain ⟨x,hx⟩:∃ x,x=l.getD k 0:=⟨_,rfl⟩
    have hmem:x∈l:=by rw [hx,List.getD_eq_getElem?_getD,List.getElem?_eq_getElem hlt];exact List.getElem_mem hlt
    rw [← hx] at ck
    have HX:=Lib.hid hx
    have HM:=Lib.hid hmem
    clear hx hc ea e' hmem
    go_wp2_with fail
    refine (HG.out x HM.out _ hB).mono ?_
    rintro e w1 ⟨rfl,hb⟩
    have hx0:Below wr.heap.size wr w1:=hb
    clear hb
    have HX0:=Lib.hid hx0
    have HO1:=Lib.hid (own_below HO.out hx0)
    have sz:w.heap.size≤w1.heap.size:=by have:=hx0.size;have:=hB.size;omega
    clear hx0
    go_wp2_with (at_builtin;refine wpList_append_own _ rfl _ _ 61 rfl w.heap.size 9 i0 (.string ByteArray.empty) 1 16 Tryz.underlying61 hi hz0 hz1 hz2 rfl (by decide) _ _ _ rfl (HO1.out.alloc _) ⟨w1.heap.size,0,none⟩ 1 1 [.string (tb (tx x))] rfl rfl ?c1 ?c2 ?c3 ?c4 ?c5 ?_)
    case c1=>
     intro j u hj
     match j,hj with
     | 0,hj=>simp at hj;subst hj;simp [Addr.add]
    case c2=>intro u hu;simp at hu;subst hu;rfl
    case c3=>unfold maxLen;omega
    case c4=>omega
    case c5=>simp;omega
    intro v' w2 hown' hgrow _
    have R:=own_next hB.size hB HX0.out HO.out hown' hgrow
    have N1:=Lib.hid (gat_next tx l k 0 hlt)
    rw [← HX.out] at N1
    have R1:=Lib.hid R.1
    have R2:=Lib.hid R.2
    rw [← N1.out] at R1
    clear R hown' hgrow HO1 HO HX0 N1
    go_wp2
    go_roundw
    case rel=>exact ⟨k + 1,by omega,by go_num,R1.out,R2.out⟩
    case measure=>simp [intOf];omega
   ·have hkl:k=l.length:=by omega
    subst hkl
    rcases Nat.eq_zero_or_pos l.length with h0 | h0
    ·have:l=[]:=List.eq_nil_of_length_eq_zero h0
     subst this
     rcases HO.out.2 with ⟨hv,_⟩ | ⟨g1,cap1,cur,hv,hbs,hg1,hcp,_⟩
     ·subst hv
      go_wp2_with fail
      refine (join_nil0 none 0 _).mono ?_
      rintro e w2 ⟨rfl,hw⟩
      subst hw
      go_wp2
      go_ret
      exact ⟨rfl,hB⟩
     ·subst hv
      go_wp2_with fail
      refine (join_nil0 _ _ _).mono ?_
      rintro e w2 ⟨rfl,hw⟩
      subst hw
      go_wp2
      go_ret
      exact ⟨rfl,hB⟩
    ·obtain ⟨g1,cap1,hv,hg1,hcp,hcells⟩:=own_texts HO.out h0
     subst hv
     have HC:=Lib.hid hcells
     clear hcells
     go_wp2_with fail
     refine (join_any tx l g1 l.length cap1 _ rfl (by omega) HS.out HC.out hg1 hcp).mono ?_
     rintro e w2 ⟨rfl,hb⟩
     have hB2:=hB.trans (hb.mono hB.size)
     go_wp2
     go_ret
     exact ⟨rfl,hB2⟩
set_option maxRecDepth 100000 in
set_option maxHeartbeats 2000000 in
theorem printList_nth (g:FuncId) (tx:Int × Int→List UInt8) (eg:∀ args w,(callFunc g args).run Tryz.prog w=.ok (.enter g args) w) (v:Value) (l:List (Int × Int)) (w:World) (hv:Nths w v l) (hl:l.length≤100) (hs:∀ x∈l,(tx x).length≤30)
 (hg:∀ (x:Int × Int),x∈l→∀ W,Below w.heap.size w W→Calls Tryz.prog g #[.agg #[.int .i64 x.1,.int .i64 x.2]] W fun e w'=>e=.returned (.string (tb (tx x)))∧Below W.heap.size W w') :
 Calls Tryz.prog 204 #[v,.func (.func g) #[] #[]] w fun e w'=>e=.returned (.string (tb (lt tx l)))∧Below w.heap.size w w':=by
 obtain ⟨i0,hi,hz0,hz1,hz2⟩:=info_parts info_str
 have HV:=Lib.hid hv
 have HG:=Lib.hid hg
 have HS:=Lib.hid hs
 clear hg hs
 obtain ⟨a,cap,rfl,hc⟩:=hv
 rcases hc with rfl | ⟨b,off,rfl,hc⟩
 ·go_enter Tryz.func204,Tryz.ntmps204
  go_wp2_with (at_make;refine wpList_make_own _ rfl _ _ 61 rfl w.heap.size 9 i0 (.string ByteArray.empty) 1 Tryz.underlying61 hi hz0 hz1 _ _ _ 0 rfl rfl (by simp) ?b2 ?b3 (Nat.le_refl _) ?_)
  case b2=>rw [hz2];omega
  case b3=>unfold maxLen;omega
  intro w0 hown0 hgrow0
  have hB0:Below w.heap.size w w0:=(Below.refl _ _).grown hgrow0 (Nat.le_refl _) (fun k h=>by cases h)
  clear hown0 hgrow0
  go_wp2
  go_loop [5,13] (fun v i=>v=.slice (some ⟨w.heap.size,0,none⟩) 0 0∧i=.int .i64 0) (fun _ _=>0)
  case atStart=>exact ⟨rfl,rfl⟩
  case round=>
   obtain ⟨rfl,rfl⟩:=hrel
   go_wp2_with fail
   refine (join_nil0 _ _ _).mono ?_
   rintro e w2 ⟨rfl,hw⟩
   subst hw
   go_wp2
   go_ret
   exact ⟨rfl,hB0⟩
 ·clear hc
  go_enter Tryz.func204,Tryz.ntmps204
  go_wp2_with (at_make;refine wpList_make_own _ rfl _ _ 61 rfl w.heap.size 9 i0 (.string ByteArray.empty) 1 Tryz.underlying61 hi hz0 hz1 _ _ _ l.length rfl rfl rfl ?b2 ?b3 (Nat.le_refl _) ?_)
  case b2=>rw [hz2];omega
  case b3=>unfold maxLen;omega
  intro w0 hown0 hgrow0
  have hB0:Below w.heap.size w w0:=(Below.refl _ _).grown hgrow0 (Nat.le_refl _) (fun k h=>by cases h)
  have HB0:=Lib.hid hB0
  have HO0:=Lib.hid hown0
  clear hown0 hgrow0 hB0
  go_wp2
  go_loopw [5,13] (fun v i wr=>∃ k:Nat,k≤l.length∧i=.int .i64 k∧wr.ownsRow w.heap.size 9 1 v k (strs (gat tx l k))∧Below w.heap.size w wr) (fun _ i _=>l.length - (intOf i).toNat)
  case atStart=>exact ⟨0,Nat.zero_le _,rfl,HO0.out,HB0.out⟩
  case round=>
   clear HO0 HB0
   obtain ⟨k,hk,rfl,hown,hB⟩:=hrel
   have HO:=Lib.hid hown
   clear hown
   by_cases hlt:k<l.length
   ·obtain ⟨a',c',e',hc⟩:=HV.out.on hB
    rcases hc with hc | ⟨b',off',ea,hc⟩
    ·rw [hc] at hlt;simp at hlt
    obtain ⟨⟨rfl,rfl⟩,rfl⟩:(b=b'∧off=off')∧cap=c':=by simpa [ea] using e'
    have ck:=hc k hlt
    obtain ⟨x,hx⟩:∃ x,x=l.getD k (0,0):=⟨_,rfl⟩
    have hmem:x∈l:=by rw [hx,List.getD_eq_getElem?_getD,List.getElem?_eq_getElem hlt];exact List.getElem_mem hlt
    rw [← hx] at ck
    obtain ⟨ck1,ck2⟩:=ck
    have HX:=Lib.hid hx
    have HM:=Lib.hid hmem
    clear hx hc ea e' hmem
    go_wp2_with fail
    refine (HG.out x HM.out _ (hB.alloc hB.size _)).mono ?_
    rintro e w1 ⟨rfl,hb⟩
    have hx0:Below wr.heap.size wr w1:=((Below.refl _ _).alloc (Nat.le_refl _) _).trans (hb.mono (by simp))
    clear hb
    have HX0:=Lib.hid hx0
    have HO1:=Lib.hid (own_below HO.out hx0)
    have sz:w.heap.size≤w1.heap.size:=by have:=hx0.size;have:=hB.size;omega
    clear hx0
    go_wp2_with (at_builtin;refine wpList_append_own _ rfl _ _ 61 rfl w.heap.size 9 i0 (.string ByteArray.empty) 1 16 Tryz.underlying61 hi hz0 hz1 hz2 rfl (by decide) _ _ _ rfl (HO1.out.alloc _) ⟨w1.heap.size,0,none⟩ 1 1 [.string (tb (tx x))] rfl rfl ?c1 ?c2 ?c3 ?c4 ?c5 ?_)
    case c1=>
     intro j u hj
     match j,hj with
     | 0,hj=>simp at hj;subst hj;simp [Addr.add]
    case c2=>intro u hu;simp at hu;subst hu;rfl
    case c3=>unfold maxLen;omega
    case c4=>omega
    case c5=>simp;omega
    intro v' w2 hown' hgrow _
    have R:=own_next hB.size hB HX0.out HO.out hown' hgrow
    have N1:=Lib.hid (gat_next tx l k (0,0) hlt)
    rw [← HX.out] at N1
    have R1:=Lib.hid R.1
    have R2:=Lib.hid R.2
    rw [← N1.out] at R1
    clear R hown' hgrow HO1 HO HX0 N1
    go_wp2
    go_roundw
    case rel=>exact ⟨k + 1,by omega,by go_num,R1.out,R2.out⟩
    case measure=>simp [intOf];omega
   ·have hkl:k=l.length:=by omega
    subst hkl
    rcases Nat.eq_zero_or_pos l.length with h0 | h0
    ·have:l=[]:=List.eq_nil_of_length_eq_zero h0
     subst this
     rcases HO.out.2 with ⟨hv,_⟩ | ⟨g1,cap1,cur,hv,hbs,hg1,hcp,_⟩
     ·subst hv
      go_wp2_with fail
      refine (join_nil0 none 0 _).mono ?_
      rintro e w2 ⟨rfl,hw⟩
      subst hw
      go_wp2
      go_ret
      exact ⟨rfl,hB⟩
     ·subst hv
      go_wp2_with fail
      refine (join_nil0 _ _ _).mono ?_
      rintro e w2 ⟨rfl,hw⟩
      subst hw
      go_wp2
      go_ret
      exact ⟨rfl,hB⟩
    ·obtain ⟨g1,cap1,hv,hg1,hcp,hcells⟩:=own_texts HO.out h0
     subst hv
     have HC:=Lib.hid hcells
     clear hcells
     go_wp2_with fail
     refine (join_any tx l g1 l.length cap1 _ rfl (by omega) HS.out HC.out hg1 hcp).mono ?_
     rintro e w2 ⟨rfl,hb⟩
     have hB2:=hB.trans (hb.mono hB.size)
     go_wp2
     go_ret
     exact ⟨rfl,hB2⟩
end Go.Proofs.YtcadomjkjoiakaaGreatDoor
namespace Go.Proofs.YtcadomjkjoiakaaGreatDoor
open Go.RowKit Cal Txt
theorem cell_lt {w:World} {b o:Nat} {v:Value} (h:w.cell? ⟨b,o,none⟩=some v):b<w.heap.size:=by
 rcases Nat.lt_or_ge b w.heap.size with g | g
 ·exact g
 ·simp [World.cell?,Array.getElem?_eq_none g] at h
theorem tb_app (a b:List UInt8):tb (a++b)=tb a++tb b:=(ba_app a b).symm
theorem tb_size (a:List UInt8):(tb a).size=a.length:=by simp [tb,ByteArray.size]
theorem ret_strNil2 {a b:ByteArray} (h:a=b):Ending.returned (.tuple #[.string a,.nilIface])=.returned (.tuple #[.string b,.nilIface]):=by rw [h]
def unt (n usual:Int):List UInt8:=if n=usual then [] else nt n
theorem unless_any (n usual:Int) (w:World) (hP:Pow w) (h0:-9223372036854775808≤n) (h1:n≤9223372036854775807) :
 Calls Tryz.prog 202 #[.int .i64 n,.int .i64 usual] w fun e w'=>e=.returned (.string (tb (unt n usual)))∧Below w.heap.size w w':=by
 by_cases h:n=usual
 ·have e1:(n == usual)=true:=by simp [h]
  have N1:Hid (unt n usual=[]):=Lib.hid (if_pos h)
  clear h
  go_enter Tryz.func202,Tryz.ntmps202
  go_wp2
  go_ret
  exact ⟨ret_ba (by rw [N1.out];rfl),Below.refl _ _⟩
 ·have e1:(n == usual)=false:=by simp [h]
  have N1:Hid (unt n usual=nt n):=Lib.hid (if_neg h)
  clear h
  go_enter Tryz.func202,Tryz.ntmps202
  go_wp2_with fail
  refine (itoa_nt n _ hP h0 h1).mono ?_
  rintro e w1 ⟨rfl,hb⟩
  go_wp2
  go_ret
  exact ⟨ret_ba (by rw [N1.out]),hb⟩
def WdW (w:World):Prop:=∀ k:Nat,k<7→w.cell? ⟨7,k,none⟩=some (.string (tb (dn (k + 1))))
theorem WdW.below {w w':World} (h:WdW w) (b:Below w.heap.size w w'):WdW w':=fun k hk=>by
 have:=h k hk
 have hb:7<w.heap.size:=by
  rcases Nat.lt_or_ge 7 w.heap.size with g | g
  ·exact g
  ·simp [World.cell?,Array.getElem?_eq_none g] at this
 exact (b.cell (p:=⟨7,k,none⟩) hb).trans this
set_option maxRecDepth 100000 in
set_option maxHeartbeats 2000000 in
theorem printWeek_any (x:Int × Int) (w:World) (hP:Pow w) (hW:WdW w) (h1:1≤x.2) (h7:x.2≤7) (h0:-5≤x.1) (h5:x.1≤5) :
 Calls Tryz.prog 205 #[.agg #[.int .i64 x.1,.int .i64 x.2]] w fun e w'=>e=.returned (.string (tb (wt x)))∧Below w.heap.size w w':=by
 obtain ⟨n,k⟩:=x
 dsimp only at h1 h7 h0 h5 ⊢
 have B0:Below w.heap.size w (w.alloc (.cells #[.int .i64 n,.int .i64 k] 192)):=(Below.refl _ _).alloc (Nat.le_refl _) _
 have T0:=Lib.hid (Two.new w n k 192)
 have HB:=Lib.hid B0
 have HP:=Lib.hid (hP.below B0)
 have cw:w.cell? ⟨7,k.toNat - 1,none⟩=some (.string (tb (dn k))):=by
  have:=hW (k.toNat - 1) (by omega)
  rwa [show ((k.toNat - 1:Nat):Int) + 1=k by omega] at this
 have gl:7<w.heap.size:=cell_lt cw
 clear hP hW
 have i1:(0:Int)≤k - 1:=by omega
 have i2:k - 1<7:=by omega
 by_cases hn:n=0
 ·have N1:Hid (wt (n,k)=dn k):=Lib.hid (by unfold wt;rw [if_pos hn];rfl)
  subst hn
  clear B0 HP T0
  go_enter Tryz.func205,Tryz.ntmps205
  go_wp2
  go_ret
  exact ⟨ret_ba (by rw [N1.out]),HB.out⟩
 ·have N1:Hid (tb (wt (n,k))=tb (nt n)++tb (dn k)):=Lib.hid (by unfold wt;rw [if_neg hn,tb_app])
  have e1:(n == 0)=false:=by simp [hn]
  have n1:¬ 9223372036854775807<(tb (nt n)).size + (tb (dn k)).size:=by
   have d2:(dn k).length=2:=dn_len h1 h7
   have d3:(nt n).length≤10:=nt_len n (by omega) (by omega)
   rw [tb_size,tb_size];omega
  have ck:=(B0.cell (p:=⟨7,k.toNat - 1,none⟩) gl).trans cw
  clear hn B0 cw gl
  go_enter Tryz.func205,Tryz.ntmps205
  go_wp2_with fail
  obtain ⟨t0,t1⟩:=T0.out
  clear T0
  generalize w.alloc (.cells #[.int .i64 n,.int .i64 k] 192)=W at HB HP ck t0 t1 ⊢
  have r0:=cell_regrown t0
  have r1:=cell_regrown t1
  have r2:=cell_regrown ck
  have i4:IntKind.i64.wrap (k - 1)=k - 1:=by rw [IntKind.wrap_i64];omega
  refine wp_region_quiet_below (by kernel_rfl) (by kernel_rfl) ?_
  repeat (quiet_step ((go_at_call 106;exact Calls.regrown_of (itoa_nt _ _ (HP.out.below (below_regrown W _ _)) (by omega) (by omega)))))
  refine wpQuiet_nil ?_
  intro _ hw'
  obtain ⟨⟨dq,osq⟩,hw''⟩:=hw'
  subst hw''
  have hB2:=HB.out.trans ((below_regrown W dq osq).mono HB.out.size)
  generalize Sort.grow (redrawn W dq) osq=W3 at hB2 ⊢
  clear r0 r1 r2 t0 t1 ck HP HB
  go_wp2
  go_ret
  exact ⟨ret_ba N1.out.symm,hB2⟩
theorem txt_day (n:Int):txt ((n - 1) * 1440 + 1)=dt n++[32,48,48,58,48,49]:=by
 unfold txt
 rw [show ((n - 1) * 1440 + 1) / 1440 + 1=n by omega,show ((n - 1) * 1440 + 1) % 1440 / 60=0 by omega,show ((n - 1) * 1440 + 1) % 60=1 by omega]
 unfold dt dt3 tmt
 simp [d2]
def dayt (n:Int):List UInt8:=if n=0 then [] else dt n
set_option maxRecDepth 100000 in
set_option maxHeartbeats 2000000 in
theorem printDay_any (n:Int) (w:World) (hT:Tab w) (hP:Pow w) (h0:0≤n) (h2:n≤109573) :
 Calls Tryz.prog 159 #[.int .i64 n] w fun e w'=>e=.returned (.tuple #[.string (tb (dayt n)),.nilIface])∧Below w.heap.size w w':=by
 by_cases h:n=0
 ·subst h
  go_enter Tryz.func159,Tryz.ntmps159
  go_wp2
  go_ret2
  exact ⟨rfl,Below.refl _ _⟩
 ·have N1:Hid (dayt n=dt n):=Lib.hid (if_neg h)
  have b0:(n == 0)=false:=by simp [h]
  have TX:=Lib.hid (txt_day n)
  have TS:Hid (Lib.trimSuffix (txt ((n - 1) * 1440 + 1)) [32,48,48,58,48,49]=dt n):=Lib.hid (by
   rw [TX.out]
   unfold Lib.trimSuffix
   have e1:Lib.hasSuffix (dt n++[32,48,48,58,48,49]) [32,48,48,58,48,49]=true:=by simp [Lib.hasSuffix]
   rw [if_pos e1]
   simp)
  have LS:Hid ((txt ((n - 1) * 1440 + 1)).length≤100):=Lib.hid (by rw [TX.out];simp [dt,dt3_len])
  have hn1:1≤n:=by omega
  clear h
  go_enter Tryz.func159,Tryz.ntmps159
  go_wp2_with fail
  refine (print_yes ((n - 1) * 1440 + 1) _ hT hP (by omega) (by omega)).mono ?_
  rintro e w1 ⟨rfl,hb⟩
  go_wp2_with fail
  refine (Tryz.strings_TrimSuffix _ ⟨#[32,48,48,58,48,49]⟩ _ (by show (List.toArray _).size≤_;have:=LS.out;simp;omega)).mono ?_
  rintro e w2 ⟨rfl,hw⟩
  subst hw
  go_wp2
  go_ret2
  exact ⟨ret_strNil2 (by show (⟨(Lib.trimSuffix (txt ((n - 1) * 1440 + 1)) [32,48,48,58,48,49]).toArray⟩:ByteArray)=_;rw [TS.out,N1.out];rfl),hb⟩
end Go.Proofs.YtcadomjkjoiakaaGreatDoor
namespace Go.Proofs.YtcadomjkjoiakaaGreatDoor
open Go.RowKit
section
variable {P:Program} {ops:Array Oper} {md:Region.Mode} {C:World→Prop} {Q:Act→Prop} {Q':Exit→Act→World→Prop} {z:Nat} {o:Oper}
def lastB (md:Region.Mode) (ops:Array Oper) (z:Nat):Bool:=
 ((List.range ops.size).all fun j=>match ops[j]? with
   | some oj=>oj.after.all fun e=>!Region.binds md e || (e.on != z && decide (e.on<j))
   | none=>true) &&
 (match ops[z]? with
  | some o=>(List.range ops.size).all fun j=>j == z || o.after.any fun e=>Region.binds md e && e.on == j
  | none=>false)
theorem lastB_early (h:lastB md ops z=true) {j:Nat} {oj:Oper} (hj:ops[j]?=some oj) {e:Edge} (he:e∈oj.after) (hb:Region.binds md e=true):e.on≠z∧e.on<j:=by
 unfold lastB at h
 rw [Bool.and_eq_true] at h
 have hlt:j<ops.size:=by
  rcases Nat.lt_or_ge j ops.size with k | k
  ·exact k
  ·rw [Array.getElem?_eq_none k] at hj;cases hj
 have k:=List.all_eq_true.1 h.1 j (List.mem_range.2 hlt)
 rw [hj] at k
 have k2:=Array.all_eq_true_iff_forall_mem.1 k e he
 rw [hb] at k2
 simp at k2
 exact k2
theorem lastB_waits (h:lastB md ops z=true) (hz:ops[z]?=some o) {j:Nat} (hj:j<ops.size) (hne:j≠z):∃ e∈o.after,Region.binds md e=true∧e.on=j:=by
 unfold lastB at h
 rw [Bool.and_eq_true,hz] at h
 have k:=List.all_eq_true.1 h.2 j (List.mem_range.2 hj)
 rw [Bool.or_eq_true] at k
 rcases k with k | k
 ·exact absurd (by simpa using k) hne
 ·rw [← Array.any_toList,List.any_eq_true] at k
  obtain ⟨e,he,hk⟩:=k
  rw [Bool.and_eq_true] at hk
  exact ⟨e,by simpa using he,hk.1,by simpa using hk.2⟩
theorem getD_both {L:Array Bool} {j:Nat} (hj:j<L.size) (d d':Bool):L.getD j d=L.getD j d':=by simp [Array.getD,hj]
theorem all_listed (h:lastB md ops z=true) {L:Array Bool} (hs:L.size=ops.size) (hr:Region.ready md ops L=[]):∀ n j,j<n→j<ops.size→L.getD j true=true:=by
 intro n
 induction n with
 | zero=>intro j hj;omega
 | succ n ih=>
   intro j hj hlt
   rcases hv:L.getD j true with _ | _
   ·have hoj:ops[j]?=some ops[j]:=Array.getElem?_eq_getElem hlt
    have:j∈Region.ready md ops L:=mem_ready.2 ⟨hv,ops[j],hoj,fun e he hb=>by
     have k:=(lastB_early h hoj he hb).2
     rw [getD_both (by omega) false true]
     exact ih e.on (by omega) (by omega)⟩
    rw [hr] at this
    cases this
   ·rfl
theorem any_last (h:lastB md ops z=true) (hz:ops[z]?=some o) (hQ:∀ a w,C w→Q a→wpList P ops Q' [o] a w):∀ (fuel:Nat) (L:Array Bool) (a:Act) (w:World),C w→L.size=ops.size→L.getD z true=false→
 wpAnyQ P md ops C Q fuel (L.setIfInBounds z true) a→wpAny P md ops Q' (fuel + 1) L a w:=by
 have hzs:z<ops.size:=by
  rcases Nat.lt_or_ge z ops.size with k | k
  ·exact k
  ·rw [Array.getElem?_eq_none k] at hz;cases hz
 have fin:∀ (fuel:Nat) (L:Array Bool) (a:Act) (w:World),C w→L.size=ops.size→L.getD z true=false→Region.ready md ops (L.setIfInBounds z true)=[]→Q a→wpAny P md ops Q' (fuel + 1) L a w:=by
  intro fuel L a w hw hs hL hr hq
  have hall:=all_listed h (by rw [Array.size_setIfInBounds];exact hs) hr ops.size
  have hzr:z∈Region.ready md ops L:=mem_ready.2 ⟨hL,o,hz,fun e he hb=>by
   have k:=lastB_early h hz he hb
   have k2:=hall e.on (by omega) (by omega)
   rw [getD_set_ne true (Ne.symm k.1)] at k2
   rw [getD_both (by omega) false true];exact k2⟩
  refine ⟨fun e=>(by rw [e] at hzr;cases hzr),fun i hi=>?_⟩
  have hiz:i=z:=by
   by_cases hne:i=z
   ·exact hne
   ·have:=ready_mono (i:=z) hi hne
    rw [hr] at this;cases this
  subst hiz
  have k:=hQ a w hw hq
  unfold wpOp
  rw [hz]
  show if _ then _ else _
  have go:∀ a' w',Q' .normal a' w'→wpAny P md ops Q' fuel (L.setIfInBounds i true) a' w':=fun a' w' q=>by
   cases fuel with
   | zero=>exact ⟨hr,q⟩
   | succ f=>exact ⟨fun _=>q,fun j hj=>by rw [hr] at hj;cases hj⟩
  have e2:wpOp P ops Q' i (fun a' w'=>Q' .normal a' w') a w:=by
   unfold wpOp
   rw [hz]
   exact k
  have e3:=wpOp_mono go e2
  unfold wpOp at e3
  rw [hz] at e3
  exact e3
 intro fuel
 induction fuel with
 | zero=>intro L a w hw hs hL H;exact fin 0 L a w hw hs hL H.1 H.2
 | succ f ih=>
   intro L a w hw hs hL H
   by_cases hr:Region.ready md ops (L.setIfInBounds z true)=[]
   ·exact fin (f + 1) L a w hw hs hL hr (H.1 hr)
   ·obtain ⟨m,hm⟩:∃ m,m∈Region.ready md ops (L.setIfInBounds z true):=List.exists_mem_of_ne_nil _ hr
    have hm0:=(mem_ready.1 hm).1
    have hmz:m≠z:=fun e=>by
     rw [e] at hm0
     simp [show z<L.size by omega] at hm0
    rw [getD_set_ne true (Ne.symm hmz)] at hm0
    have hms:m<ops.size:=by
     obtain ⟨_,om,hom,_⟩:=mem_ready.1 hm
     rcases Nat.lt_or_ge m ops.size with k | k
     ·exact k
     ·rw [Array.getElem?_eq_none k] at hom;cases hom
    have hnz:z ∉ Region.ready md ops L:=fun hzr=>by
     obtain ⟨_,o',ho',hall⟩:=mem_ready.1 hzr
     rw [hz] at ho'
     cases ho'
     obtain ⟨e,he,hb,hon⟩:=lastB_waits h hz hms hmz
     have k:=hall e he hb
     rw [hon,getD_both (by omega) false true,hm0] at k
     cases k
    refine ⟨fun e=>?_,fun i hi=>?_⟩
    ·-- m is ready already
     have:m∈Region.ready md ops L:=by
      obtain ⟨_,om,hom,hall⟩:=mem_ready.1 hm
      exact mem_ready.2 ⟨hm0,om,hom,fun e he hb=>by
       have k:=hall e he hb
       rwa [getD_set_ne false (Ne.symm (lastB_early h hom he hb).1)] at k⟩
     rw [e] at this;cases this
    ·have hiz:i≠z:=fun e=>hnz (e ▸ hi)
     refine wpOp_of_qOp hw (fun a' w' hw' hk=>?_) (H.2 i (ready_mono hi hiz))
     refine ih (L.setIfInBounds i true) a' w' hw' (by rw [Array.size_setIfInBounds];exact hs) (by rw [getD_set_ne true hiz];exact hL) ?_
     rw [Array.setIfInBounds_comm _ _ hiz]
     exact hk
theorem lex_most (hs:Region.noSelect ops=true):∀ (l:List Oper) (k:Nat) (L:Array Bool) (a:Act),(∀ j,j<l.length→l[j]?=ops[k + j]?)→Region.lexFrom md ops l.length k L=true→wpQuiet P ops C Q l a→wpAnyQ P md ops C Q l.length L a:=by
 intro l
 induction l with
 | nil=>intro k L a _ hB h;exact ⟨by simpa [Region.lexFrom] using hB,h⟩
 | cons o l ih=>
   intro k L a hl hB h
   have h0:ops[k]?=some o:=by have:=hl 0 (by simp);simpa using this.symm
   simp only [List.length_cons,Region.lexFrom,Bool.and_eq_true] at hB
   obtain ⟨v,hy,hK⟩:=yieldsIn_of_qOp (K:=wpQuiet P ops C Q l) h0 (by unfold qOp;rw [h0];exact h)
   exact wpAnyQ_first h0 (Region.noSelect_spec hs) l.length L a (Region.free_spec h0 hB.1.2) (by simpa using hB.1.1) hy
    (ih (k + 1) _ _ (fun j hj=>by have:=hl (j + 1) (by simp;omega);simpa [Nat.add_assoc,Nat.add_comm 1 j] using this) hB.2 hK)
end
def lexLastB (l:List Oper) (o:Oper):Bool:=Region.noSelect (l++[o]).toArray && Region.lexFrom .any (l++[o]).toArray l.length 0 ((Array.replicate (l++[o]).toArray.size false).setIfInBounds l.length true) && lastB .any (l++[o]).toArray l.length
theorem wp_region_last {P:Program} {id:Nat} {Q:Exit→Act→World→Prop} {a:Act} {w:World} {l:List Oper} {o:Oper} (hm:P.follows .mixedOrders=true) (hB:lexLastB l o=true)
 (h:wpQuiet P (l++[o]).toArray (fun w'=>∃ p:Regrown,w'=Sort.grow (redrawn w p.d) p.os) (fun a'=>∀ w',(∃ p:Regrown,w'=Sort.grow (redrawn w p.d) p.os)→wpList P (l++[o]).toArray Q [o] a' w') l a):(Code.region id (l++[o]).toArray true).wp P Q a w:=by
 unfold lexLastB at hB
 rw [Bool.and_eq_true,Bool.and_eq_true] at hB
 obtain ⟨⟨h1,h2⟩,h3⟩:=hB
 refine wp_region_any hm ?_
 have hsz:(l++[o]).toArray.size=l.length + 1:=by simp
 have hz:(l++[o]).toArray[l.length]?=some o:=by simp
 have k:=lex_most (P:=P) (md:=.any) h1 l 0 _ a (fun j hj=>by simp [List.getElem?_append_left hj]) h2 h
 have:=any_last (P:=P) (Q':=Q) h3 hz (fun a' w' hw' hq=>hq w' hw') l.length (Array.replicate (l++[o]).toArray.size false) a { w with drawn:=w.drawn + 1 } ⟨⟨w.drawn + 1,#[]⟩,by rw [Sort.grow_empty];rfl⟩ (by simp) (by simp) k
 rw [hsz] at this ⊢
 exact this
theorem wp_region_last_at {P:Program} {id:Nat} {Q:Exit→Act→World→Prop} {a:Act} {w:World} {L:List Oper} (n:Nat) {o:Oper} (ho:L.drop n=[o]) (hm:P.follows .mixedOrders=true) (hB:lexLastB (L.take n) o=true)
 (h:wpQuiet P L.toArray (fun w'=>∃ p:Regrown,w'=Sort.grow (redrawn w p.d) p.os) (fun a'=>∀ w',(∃ p:Regrown,w'=Sort.grow (redrawn w p.d) p.os)→wpList P L.toArray Q [o] a' w') (L.take n) a):(Code.region id L.toArray true).wp P Q a w:=by
 have e:L.take n++[o]=L:=by rw [← ho,List.take_append_drop]
 have k:=wp_region_last (id:=id) (l:=L.take n) (o:=o) (Q:=Q) (a:=a) (w:=w) hm hB (by rw [e];exact h)
 rwa [e] at k
end Go.Proofs.YtcadomjkjoiakaaGreatDoor
namespace Go.Proofs.YtcadomjkjoiakaaGreatDoor
open Go.RowKit Cal Txt
theorem wt_len (x:Int × Int) (h1:1≤x.2) (h7:x.2≤7) (h0:-999999999≤x.1) (h5:x.1≤999999999):(wt x).length≤30:=by
 have d2:=dn_len h1 h7
 have d3:=nt_len x.1 h0 h5
 unfold wt
 split
 ·rw [List.nil_append];omega
 ·rw [List.length_append];omega
def Sev (W:World) (b:Nat):Prop:=(∀ i,i<7→W.cell? ⟨b,i,none⟩=some (.string ⟨#[]⟩))∧∀ i,W.frozen? ⟨b,i,none⟩=false
theorem Sev.new (W:World) (t:TypeId):Sev (W.alloc (.cells #[.string ⟨#[]⟩,.string ⟨#[]⟩,.string ⟨#[]⟩,.string ⟨#[]⟩,.string ⟨#[]⟩,.string ⟨#[]⟩,.string ⟨#[]⟩] t)) W.heap.size:=by
 refine ⟨fun i hi=>?_,fun i=>by simp⟩
 rcases seven hi with rfl | rfl | rfl | rfl | rfl | rfl | rfl <;> simp
theorem Sev.lt {W:World} {b:Nat} (h:Sev W b):b<W.heap.size:=cell_lt (h.1 0 (by decide))
theorem Sev.on {W W':World} {b:Nat} (h:Sev W b) (q:Below W.heap.size W W'):Sev W' b:=by
 obtain ⟨c,f⟩:=bcell q
 exact ⟨fun i hi=>by rw [c _ _ h.lt];exact h.1 i hi,fun i=>by rw [f _ _ h.lt];exact h.2 i⟩
theorem Sev.there {W:World} {b:Nat} (h:Sev W b):W.there b 0 7:=fun j hj=>by
 rw [Nat.zero_add,h.1 j hj]
 exact ⟨rfl,h.2 j⟩
theorem below_setCells {B:Nat} {a:World} (b:Nat):∀ (vs:List Value) (o:Nat) (w:World),Below B a w→B≤b→Below B a (w.setCells b o vs)
 | [],_,_,h,_=>h
 | v :: r,o,w,h,hb=>below_setCells b r (o + 1) (w.setCell ⟨b,o,none⟩ v) (h.setCell hb _) hb
theorem wpList_store_new {P:Program} {ops:Array Oper} {rest:List Oper} {op:Oper} {a:Act} {w:World} {Q:Exit→Act→World→Prop} (hgd:op.guard=none) (ty:TypeId) (x y:Operand) (ho:op.op=.store ty x y)
 (b:Nat) (cells:Array Value) (hx:a.eval x=.pointer (some ⟨b,0,none⟩)) (hy:a.eval y=.agg cells) (ht:w.there b 0 cells.size) (hi:(P.info? ty).map (·.size)=some cells.size) (h1:cells.all (·.oneCell')=true)
 {B:Nat} {w0:World} (hB:Below B w0 w) (hb:B≤b) (h:∀ W4:World,W4.rangeAt b 0 cells.toList→Below B w0 W4→wpList P ops Q rest (a.put op.dst undef) W4):wpList P ops Q (op :: rest) a w:=
 wpList_store_mid hgd ty x y ho b 0 cells hx hy ht hi h1 (h _ (World.rangeAt_setCells_same w b 0 cells.toList (by simpa using ht)) (below_setCells b cells.toList 0 w hB hb))
theorem fI:∀ args w,(callFunc 106 args).run Tryz.prog w=.ok (.enter 106 args) w:=enters_of Tryz.func106 (by kernel_rfl) rfl
theorem fW:∀ args w,(callFunc 205 args).run Tryz.prog w=.ok (.enter 205 args) w:=enters_of Tryz.func205 (by kernel_rfl) rfl
set_option maxRecDepth 100000 in
set_option maxHeartbeats 4000000 in
theorem printParts_walk (r:Rl) (am ad aw ap:Option Addr) (cm cd cw cp:Nat) (u:List UInt8) (w:World) (hm:Ints w (.slice am r.months.length cm) r.months) (hd:Ints w (.slice ad r.days.length cd) r.days) (hw:Nths w (.slice aw r.weeks.length cw) r.weeks) (hp:Ints w (.slice ap r.pick.length cp) r.pick)
 (hP:Pow w) (hW:WdW w) (h1:ok1 r=true) (h2:ok2 r=true) (h3:itemsB r=true) :
 Calls Tryz.prog 160 #[.agg #[.int .i64 r.freq,.int .i64 r.every,.int .i64 r.count,.int .i64 r.till,.slice am r.months.length cm,.slice ad r.days.length cd,.slice aw r.weeks.length cw,.slice ap r.pick.length cp],.string (tb u)] w fun e w'=>e=.returned (.agg #[.string (tb (unt r.every 1)),.string (tb (unt r.count 0)),.string (tb u),.string (tb (lt nt r.months)),.string (tb (lt nt r.days)),.string (tb (lt wt r.weeks)),.string (tb (lt nt r.pick))])∧Below w.heap.size w w':=by
 obtain ⟨l1,l2,l3,l4⟩:=ok2_yes h2
 obtain ⟨⟨⟨g1,g2⟩,g3⟩,g4⟩:((r.months.all monP=true∧r.days.all plaP=true)∧r.weeks.all wkP=true)∧r.pick.all plaP=true:=by simpa [itemsB] using h3
 have n1:∀ x∈r.months,1≤x∧x≤12:=fun x hx=>of_decide_eq_true (List.all_eq_true.1 g1 x hx)
 have n2:∀ x∈r.days,¬ x=0∧-31≤x∧x≤31:=fun x hx=>of_decide_eq_true (List.all_eq_true.1 g2 x hx)
 have n3:∀ x∈r.weeks,1≤x.2∧x.2≤7∧-5≤x.1∧x.1≤5:=fun x hx=>of_decide_eq_true (List.all_eq_true.1 g3 x hx)
 have n4:∀ x∈r.pick,¬ x=0∧-31≤x∧x≤31:=fun x hx=>of_decide_eq_true (List.all_eq_true.1 g4 x hx)
 obtain ⟨⟨a1,a2⟩,⟨b1,b2⟩,⟨c1,c2⟩,d1,d2'⟩:=of_decide_eq_true h1
 clear g1 g2 g3 g4 h1 h2 h3
 have K1:Hid (∀ W,Below w.heap.size w W→Calls Tryz.prog 203 #[.slice am r.months.length cm,.func (.func 106) #[] #[]] W fun e w'=>e=.returned (.string (tb (lt nt r.months)))∧Below W.heap.size W w'):=Lib.hid (fun W hb=>
  printList_int _ nt fI _ _ W (hm.on hb) (by omega) (fun x hx=>by have:=n1 x hx;have:=nt_len x (by omega) (by omega);omega) (fun x hx W2 hb2=>by have:=n1 x hx;exact itoa_nt x W2 ((hP.below hb).below hb2) (by omega) (by omega)))
 have K2:Hid (∀ W,Below w.heap.size w W→Calls Tryz.prog 203 #[.slice ad r.days.length cd,.func (.func 106) #[] #[]] W fun e w'=>e=.returned (.string (tb (lt nt r.days)))∧Below W.heap.size W w'):=Lib.hid (fun W hb=>
  printList_int _ nt fI _ _ W (hd.on hb) (by omega) (fun x hx=>by have:=n2 x hx;have:=nt_len x (by omega) (by omega);omega) (fun x hx W2 hb2=>by have:=n2 x hx;exact itoa_nt x W2 ((hP.below hb).below hb2) (by omega) (by omega)))
 have K3:Hid (∀ W,Below w.heap.size w W→Calls Tryz.prog 204 #[.slice aw r.weeks.length cw,.func (.func 205) #[] #[]] W fun e w'=>e=.returned (.string (tb (lt wt r.weeks)))∧Below W.heap.size W w'):=Lib.hid (fun W hb=>
  printList_nth _ wt fW _ _ W (hw.on hb) (by omega) (fun x hx=>by have:=n3 x hx;exact wt_len x this.1 this.2.1 (by omega) (by omega)) (fun x hx W2 hb2=>by have:=n3 x hx;exact printWeek_any x W2 ((hP.below hb).below hb2) ((hW.below hb).below hb2) this.1 this.2.1 this.2.2.1 this.2.2.2))
 have K4:Hid (∀ W,Below w.heap.size w W→Calls Tryz.prog 203 #[.slice ap r.pick.length cp,.func (.func 106) #[] #[]] W fun e w'=>e=.returned (.string (tb (lt nt r.pick)))∧Below W.heap.size W w'):=Lib.hid (fun W hb=>
  printList_int _ nt fI _ _ W (hp.on hb) (by omega) (fun x hx=>by have:=n4 x hx;have:=nt_len x (by omega) (by omega);omega) (fun x hx W2 hb2=>by have:=n4 x hx;exact itoa_nt x W2 ((hP.below hb).below hb2) (by omega) (by omega)))
 have K5:Hid (∀ W,Below w.heap.size w W→Calls Tryz.prog 202 #[.int .i64 r.every,.int .i64 1] W fun e w'=>e=.returned (.string (tb (unt r.every 1)))∧Below W.heap.size W w'):=Lib.hid (fun W hb=>unless_any _ _ W (hP.below hb) (by omega) (by omega))
 have K6:Hid (∀ W,Below w.heap.size w W→Calls Tryz.prog 202 #[.int .i64 r.count,.int .i64 0] W fun e w'=>e=.returned (.string (tb (unt r.count 0)))∧Below W.heap.size W w'):=Lib.hid (fun W hb=>unless_any _ _ W (hP.below hb) (by omega) (by omega))
 clear hm hd hw hp hP hW n1 n2 n3 n4 l1 l2 l3 l4 a1 a2 b1 b2 c1 c2 d1 d2'
 have R0:=(RBox.new w r.freq r.every r.count r.till (.slice am r.months.length cm) (.slice ad r.days.length cd) (.slice aw r.weeks.length cw) (.slice ap r.pick.length cp) 28)
 have R1:=Lib.hid (R0.on ((Below.refl _ _).alloc (Nat.le_refl _) (.cells #[.string ⟨#[]⟩,.string ⟨#[]⟩,.string ⟨#[]⟩,.string ⟨#[]⟩,.string ⟨#[]⟩,.string ⟨#[]⟩,.string ⟨#[]⟩] 207)))
 have B1:Hid (Below w.heap.size w ((w.alloc (.cells #[.int .i64 r.freq,.int .i64 r.every,.int .i64 r.count,.int .i64 r.till,.slice am r.months.length cm,.slice ad r.days.length cd,.slice aw r.weeks.length cw,.slice ap r.pick.length cp] 28)).alloc (.cells #[.string ⟨#[]⟩,.string ⟨#[]⟩,.string ⟨#[]⟩,.string ⟨#[]⟩,.string ⟨#[]⟩,.string ⟨#[]⟩,.string ⟨#[]⟩] 207))):=Lib.hid (((Below.refl _ _).alloc (Nat.le_refl _) _).alloc (by simp) _)
 have A1:Hid (Sev ((w.alloc (.cells #[.int .i64 r.freq,.int .i64 r.every,.int .i64 r.count,.int .i64 r.till,.slice am r.months.length cm,.slice ad r.days.length cd,.slice aw r.weeks.length cw,.slice ap r.pick.length cp] 28)).alloc (.cells #[.string ⟨#[]⟩,.string ⟨#[]⟩,.string ⟨#[]⟩,.string ⟨#[]⟩,.string ⟨#[]⟩,.string ⟨#[]⟩,.string ⟨#[]⟩] 207)) (w.heap.size + 1)):=Lib.hid (by have:=Sev.new (w.alloc (.cells #[.int .i64 r.freq,.int .i64 r.every,.int .i64 r.count,.int .i64 r.till,.slice am r.months.length cm,.slice ad r.days.length cd,.slice aw r.weeks.length cw,.slice ap r.pick.length cp] 28)) 207;simpa using this)
 clear R0
 go_enter Tryz.func160,Tryz.ntmps160
 go_wp2_with fail
 generalize ((w.alloc (.cells #[.int .i64 r.freq,.int .i64 r.every,.int .i64 r.count,.int .i64 r.till,.slice am r.months.length cm,.slice ad r.days.length cd,.slice aw r.weeks.length cw,.slice ap r.pick.length cp] 28)).alloc (.cells #[.string ⟨#[]⟩,.string ⟨#[]⟩,.string ⟨#[]⟩,.string ⟨#[]⟩,.string ⟨#[]⟩,.string ⟨#[]⟩,.string ⟨#[]⟩] 207))=W at R1 B1 A1 ⊢
 obtain ⟨_,q1,q2,_,q4,q5,q6,q7⟩:=id R1.out
 have r1:=cell_regrown q1
 have r2:=cell_regrown q2
 have r4:=cell_regrown q4
 have r5:=cell_regrown q5
 have r6:=cell_regrown q6
 have r7:=cell_regrown q7
 refine wp_region_last_at 22 rfl (by kernel_rfl) (by kernel_rfl) ?_
 simp only [List.take_succ_cons,List.take_zero]
 repeat (quiet_step (first
  | (go_at_call_of 202 (Value.int .i64 r.every);exact Calls.regrown_of (K5.out _ (B1.out.trans ((below_regrown W _ _).mono B1.out.size))))
  | (go_at_call_of 202 (Value.int .i64 r.count);exact Calls.regrown_of (K6.out _ (B1.out.trans ((below_regrown W _ _).mono B1.out.size))))
  | (go_at_call_of 203 (Value.slice am r.months.length cm);exact Calls.regrown_of (K1.out _ (B1.out.trans ((below_regrown W _ _).mono B1.out.size))))
  | (go_at_call_of 203 (Value.slice ad r.days.length cd);exact Calls.regrown_of (K2.out _ (B1.out.trans ((below_regrown W _ _).mono B1.out.size))))
  | (go_at_call_of 203 (Value.slice ap r.pick.length cp);exact Calls.regrown_of (K4.out _ (B1.out.trans ((below_regrown W _ _).mono B1.out.size))))
  | (go_at_call 204;exact Calls.regrown_of (K3.out _ (B1.out.trans ((below_regrown W _ _).mono B1.out.size))))))
 refine wpQuiet_nil ?_
 intro _ hw'
 obtain ⟨⟨dq,osq⟩,hw''⟩:=hw'
 subst hw''
 have hB2:=B1.out.trans ((below_regrown W dq osq).mono B1.out.size)
 have S3:=A1.out.on (below_regrown W dq osq)
 clear r1 r2 r4 r5 r6 r7 q1 q2 q4 q5 q6 q7 R1 K1 K2 K3 K4 K5 K6
 generalize Sort.grow (redrawn W dq) osq=W3 at hB2 S3 ⊢
 refine wpList_store_new rfl _ _ _ rfl (w.heap.size + 1) #[.string (tb (unt r.every 1)),.string (tb (unt r.count 0)),.string (tb u),.string (tb (lt nt r.months)),.string (tb (lt nt r.days)),.string (tb (lt wt r.weeks)),.string (tb (lt nt r.pick))] rfl rfl S3.there (by kernel_rfl) (by simp [Value.oneCell']) hB2 (by omega) ?_
 clear S3 hB2 A1 B1 W3
 intro W4 R4 B4
 have r0:=R4 0 _ rfl
 have r1:=R4 1 _ rfl
 have r2:=R4 2 _ rfl
 have r3:=R4 3 _ rfl
 have r4:=R4 4 _ rfl
 have r5:=R4 5 _ rfl
 have r6:=R4 6 _ rfl
 simp only [Nat.zero_add] at r0 r1 r2 r3 r4 r5 r6
 clear R4
 go_wp2_with fail
 refine bodyPost_ret (v:=.agg #[.string (tb (unt r.every 1)),.string (tb (unt r.count 0)),.string (tb u),.string (tb (lt nt r.months)),.string (tb (lt nt r.days)),.string (tb (lt wt r.weeks)),.string (tb (lt nt r.pick))]) (by simp [results,Tryz.results160,go_sem,r0,r1,r2,r3,r4,r5,r6]) rfl ⟨rfl,B4⟩
def pt (r:Rl) (k:Nat):List UInt8:=if k=0 then unt r.every 1 else if k=1 then unt r.count 0 else if k=2 then dayt r.till else if k=3 then lt nt r.months else if k=4 then lt nt r.days else if k=5 then lt wt r.weeks else lt nt r.pick
end Go.Proofs.YtcadomjkjoiakaaGreatDoor
namespace Go.Proofs.YtcadomjkjoiakaaGreatDoor
open Go.RowKit Cal Txt
def FrW (w:World):Prop:=∀ k:Nat,k<4→w.cell? ⟨3,k,none⟩=some (.string (tb (fq (k + 1))))
def PaW (w:World):Prop:=∀ k:Nat,k<7→w.cell? ⟨4,k,none⟩=some (.string (tb (kw k)))
theorem FrW.below {w w':World} (h:FrW w) (b:Below w.heap.size w w'):FrW w':=fun k hk=>(b.cell (p:=⟨3,k,none⟩) (cell_lt (h k hk))).trans (h k hk)
theorem PaW.below {w w':World} (h:PaW w) (b:Below w.heap.size w w'):PaW w':=fun k hk=>(b.cell (p:=⟨4,k,none⟩) (cell_lt (h k hk))).trans (h k hk)
theorem idx7 (r:Rl) (k:Nat) (h:k<7) (W:World):(Instr.index 207 (.agg #[.string (tb (unt r.every 1)),.string (tb (unt r.count 0)),.string (tb (dayt r.till)),.string (tb (lt nt r.months)),.string (tb (lt nt r.days)),.string (tb (lt wt r.weeks)),.string (tb (lt nt r.pick))]) (.int .i64 k)).run Tryz.prog W=.ok (.string (tb (pt r k))) W:=by
 rcases seven h with rfl | rfl | rfl | rfl | rfl | rfl | rfl <;> kernel_rfl
def tk (r:Rl):Nat→List UInt8
 | 0=>fq r.freq
 | k + 1=>tk r k++(if pt r k=[] then [] else 32 :: kw k++32 :: pt r k)
theorem lt_nil {α:Type} (tx:α→List UInt8) (l:List α) (h:∀ x∈l,tx x≠[]):lt tx l=[]↔l=[]:=by
 cases l with
 | nil=>simp [lt,joinBy]
 | cons a r=>
   constructor
   ·intro e
    exfalso
    have ha:=h a (by simp)
    unfold lt at e
    cases r with
    | nil=>exact ha e
    | cons b r=>
      simp only [List.map_cons] at e
      rw [joinBy_cons _ _ (by simp)] at e
      have:=congrArg List.length e
      simp at this
   ·intro e;cases e
theorem wt_ne {x:Int × Int} (h1:1≤x.2) (h7:x.2≤7):wt x≠[]:=fun e=>by
 have d:=dn_len h1 h7
 have:=congrArg List.length e
 unfold wt at this
 rw [List.length_append,d] at this
 simp at this
theorem part_pt (r:Rl) (hw:wkB r.weeks=true) (k:Nat) (hk:k<7):Txt.part k r=if pt r k=[] then [] else [kw k,pt r k]:=by
 have e1:∀ n u:Int,unt n u=[]↔n=u:=fun n u=>by
  unfold unt
  by_cases h:n=u
  ·simp [h]
  ·simp [h,nt_ne]
 have e2:∀ n:Int,dayt n=[]↔n=0:=fun n=>by
  unfold dayt
  by_cases h:n=0
  ·simp [h]
  ·simp only [h,if_false,iff_false]
   intro e
   have:=congrArg List.length e
   unfold dt at this
   rw [dt3_len] at this
   simp at this
 have e3:∀ l:List Int,lt nt l=[]↔l=[]:=fun l=>lt_nil nt l (fun x _=>nt_ne x)
 have e4:lt wt r.weeks=[]↔r.weeks=[]:=lt_nil wt _ (fun x hx=>by
  have:=of_decide_eq_true (List.all_eq_true.1 hw x hx)
  exact wt_ne this.1 this.2.1)
 rcases seven hk with rfl | rfl | rfl | rfl | rfl | rfl | rfl
 ·by_cases h:r.every=1 <;> simp [Txt.part,pt,unt,h,nt_ne]
 ·by_cases h:r.count=0 <;> simp [Txt.part,pt,unt,h,nt_ne]
 ·by_cases h:r.till=0
  ·simp [Txt.part,pt,dayt,h]
  ·have:=(not_congr (e2 r.till)).2 h
   simp only [Txt.part,pt]
   simp [h]
   simp [this]
   simp [dayt,h]
 ·by_cases h:r.months=[]
  ·simp [Txt.part,pt,h,lt,joinBy]
  ·simp [Txt.part,pt,h,(not_congr (e3 _)).2 h]
 ·by_cases h:r.days=[]
  ·simp [Txt.part,pt,h,lt,joinBy]
  ·simp [Txt.part,pt,h,(not_congr (e3 _)).2 h]
 ·by_cases h:r.weeks=[]
  ·simp [Txt.part,pt,h,lt,joinBy]
  ·simp [Txt.part,pt,h,(not_congr e4).2 h]
 ·by_cases h:r.pick=[]
  ·simp [Txt.part,pt,h,lt,joinBy]
  ·simp [Txt.part,pt,h,(not_congr (e3 _)).2 h]
def fsts (r:Rl):Nat→List (List UInt8)
 | 0=>[]
 | k + 1=>fsts r k++Txt.part k r
theorem fst_join (r:Rl) (hw:wkB r.weeks=true):∀ k,k≤7→joinBy 32 (fq r.freq :: fsts r k)=tk r k
 | 0,_=>rfl
 | k + 1,h=>by
   have ih:=fst_join r hw k (by omega)
   show joinBy 32 (fq r.freq :: (fsts r k++Txt.part k r))=tk r k++_
   rw [part_pt r hw k (by omega)]
   by_cases e:pt r k=[]
   ·rw [if_pos e,if_pos e,List.append_nil,List.append_nil];exact ih
   ·rw [if_neg e,if_neg e,← ih]
    have e1:fq r.freq :: (fsts r k++[kw k,pt r k])=(fq r.freq :: fsts r k)++[kw k]++[pt r k]:=by simp
    rw [e1,join_snoc 32 _ _ (by simp),join_snoc 32 _ _ (by simp)]
    simp
theorem fst_parts (r:Rl):fsts r 7=parts 7 r:=by
 show (((((([]++Txt.part 0 r)++Txt.part 1 r)++Txt.part 2 r)++Txt.part 3 r)++Txt.part 4 r)++Txt.part 5 r)++Txt.part 6 r=Txt.part 0 r++(Txt.part 1 r++(Txt.part 2 r++(Txt.part 3 r++(Txt.part 4 r++(Txt.part 5 r++(Txt.part 6 r++[]))))))
 simp
theorem tk_rt (r:Rl) (hw:wkB r.weeks=true):tk r 7=rt r:=by
 rw [← fst_join r hw 7 (by decide),fst_parts];rfl
end Go.Proofs.YtcadomjkjoiakaaGreatDoor
namespace Go.Proofs.YtcadomjkjoiakaaGreatDoor
open Go.RowKit Cal Txt
theorem fault_zero {k:Int} (h:k=0):fault k=.nilIface:=if_pos h
theorem fault_some {k:Int} (h:¬ k=0):fault k=.iface 73 (.int .i64 k):=if_neg h
theorem join_len' (xs:List (List UInt8)) (k n:Nat) (h:∀ x∈xs,x.length≤k) (hn:xs.length≤n):(joinBy 44 xs).length≤n * (k + 1):=
 Nat.le_trans (join_len 44 k xs h) (Nat.mul_le_mul_right _ hn)
theorem pt_len {r:Rl} (h1:ok1 r=true) (h2:ok2 r=true) (h3:itemsB r=true) (k:Nat):(pt r k).length≤5000:=by
 obtain ⟨l1,l2,l3,l4⟩:=ok2_yes h2
 obtain ⟨⟨⟨g1,g2⟩,g3⟩,g4⟩:((r.months.all monP=true∧r.days.all plaP=true)∧r.weeks.all wkP=true)∧r.pick.all plaP=true:=by simpa [itemsB] using h3
 obtain ⟨⟨a1,a2⟩,⟨b1,b2⟩,⟨c1,c2⟩,d1,d2'⟩:=of_decide_eq_true h1
 have u1:∀ n u:Int,-999999999≤n→n≤999999999→(unt n u).length≤10:=fun n u h0 h1=>by
  unfold unt;split
  ·simp
  ·exact nt_len n h0 h1
 have u2:(dayt r.till).length≤10:=by
  unfold dayt;split
  ·simp
  ·unfold dt;rw [dt3_len];omega
 have v1:∀ (l:List Int),(∀ x∈l,-999999999≤x∧x≤999999999)→l.length≤40→(lt nt l).length≤5000:=fun l h hl=>by
  have:=join_len' (l.map nt) 30 40 (fun x hx=>by obtain ⟨y,hy,rfl⟩:=List.mem_map.1 hx;have:=h y hy;have:=nt_len y (by omega) (by omega);omega) (by rw [List.length_map];exact hl)
  unfold lt;omega
 have v2:(lt wt r.weeks).length≤5000:=by
  have:=join_len' (r.weeks.map wt) 30 40 (fun x hx=>by obtain ⟨y,hy,rfl⟩:=List.mem_map.1 hx;have:=of_decide_eq_true (List.all_eq_true.1 g3 y hy);exact wt_len y this.1 this.2.1 (by omega) (by omega)) (by rw [List.length_map];omega)
  unfold lt;omega
 unfold pt
 split
 ·have:=u1 r.every 1 (by omega) (by omega);omega
 split
 ·have:=u1 r.count 0 (by omega) (by omega);omega
 split
 ·omega
 split
 ·exact v1 _ (fun x hx=>by have:=of_decide_eq_true (List.all_eq_true.1 g1 x hx);omega) (by omega)
 split
 ·exact v1 _ (fun x hx=>by have:=of_decide_eq_true (List.all_eq_true.1 g2 x hx);omega) (by omega)
 split
 ·exact v2
 ·exact v1 _ (fun x hx=>by have:=of_decide_eq_true (List.all_eq_true.1 g4 x hx);omega) (by omega)
theorem kw_len (k:Nat):(kw k).length≤6:=by
 unfold kw
 repeat (split;decide)
 decide
theorem fq_len (k:Int):(fq k).length≤7:=by
 unfold fq
 repeat (split;decide)
 decide
theorem tk_len {r:Rl} (h1:ok1 r=true) (h2:ok2 r=true) (h3:itemsB r=true):∀ k,(tk r k).length≤7 + k * 5010
 | 0=>by show (fq r.freq).length≤_;have:=fq_len r.freq;omega
 | k + 1=>by
   have ih:=tk_len h1 h2 h3 k
   generalize hz:7 + (k + 1) * 5010=z
   have a:=pt_len h1 h2 h3 k
   have b:=kw_len k
   show (tk r k++_).length≤_
   rw [List.length_append]
   split
   ·rw [List.length_nil];omega
   ·rw [List.length_append,List.length_cons,List.length_cons];omega
theorem tk_next {r:Rl} {k:Nat} (h:¬ pt r k=[]):tb (tk r k)++((⟨#[32]⟩:ByteArray)++tb (kw k)++⟨#[32]⟩++tb (pt r k))=tb (tk r (k + 1)):=by
 show _=tb (tk r k++_)
 rw [if_neg h,show (⟨#[32]⟩:ByteArray)=tb [32] from rfl,← tb_app,← tb_app,← tb_app,← tb_app]
 simp
theorem tk_same {r:Rl} {k:Nat} (h:pt r k=[]):tk r (k + 1)=tk r k:=by
 show tk r k++_=_
 rw [if_pos h,List.append_nil]
theorem rf_good {r:Rl} (h:rf r=0):ok1 r=true∧¬ (¬ r.count=0∧¬ r.till=0)∧ok2 r=true∧itemsB r=true∧ok4 r=true∧oddB r=false:=by
 rcases e1:ok1 r with _ | _
 ·rw [rf_1 e1] at h;cases h
 by_cases e2:¬ r.count=0∧¬ r.till=0
 ·rw [rf_3 e1 e2] at h;cases h
 rcases e3:ok2 r with _ | _
 ·rw [rf_4 e1 e2 e3] at h;cases h
 rcases e4:itemsB r with _ | _
 ·rw [rf_5 e1 e2 e3 e4] at h;cases h
 rcases e5:ok4 r with _ | _
 ·rw [rf_7 e1 e2 e3 e4 e5] at h;cases h
 rcases e6:oddB r with _ | _
 ·exact ⟨rfl,e2,rfl,rfl,rfl,rfl⟩
 ·rw [rf_8 e1 e2 e3 e4 e5 e6] at h;cases h
set_option maxRecDepth 100000 in
set_option maxHeartbeats 4000000 in
theorem print_bad (r:Rl) (am ad aw ap:Option Addr) (cm cd cw cp:Nat) (w:World) (hm:Ints w (.slice am r.months.length cm) r.months) (hd:Ints w (.slice ad r.days.length cd) r.days) (hw:Nths w (.slice aw r.weeks.length cw) r.weeks) (hp:Ints w (.slice ap r.pick.length cp) r.pick) (h:¬ rf r=0) :
 Calls Tryz.prog 104 #[.agg #[.int .i64 r.freq,.int .i64 r.every,.int .i64 r.count,.int .i64 r.till,.slice am r.months.length cm,.slice ad r.days.length cd,.slice aw r.weeks.length cw,.slice ap r.pick.length cp]] w fun e w'=>e=.returned (.tuple #[.string ⟨#[]⟩,.iface 73 (.int .i64 (rf r))])∧Below w.heap.size w w':=by
 have B0:Below w.heap.size w (w.alloc (.cells #[.int .i64 r.freq,.int .i64 r.every,.int .i64 r.count,.int .i64 r.till,.slice am r.months.length cm,.slice ad r.days.length cd,.slice aw r.weeks.length cw,.slice ap r.pick.length cp] 28)):=(Below.refl _ _).alloc (Nat.le_refl _) _
 have HB:=Lib.hid B0
 have HC:=Lib.hid (check_walk r am ad aw ap cm cd cw cp _ (hm.on B0) (hd.on B0) (hw.on B0) (hp.on B0))
 have HF:=Lib.hid (fault_some h)
 clear B0 hm hd hw hp h
 go_enter Tryz.func104,Tryz.ntmps104
 go_wp2_with fail
 refine HC.out.mono ?_
 rintro e w1 ⟨rfl,hx⟩
 have HB1:=Lib.hid (HB.out.trans (hx.mono HB.out.size))
 rw [HF.out]
 clear hx HB HC HF
 go_wp2
 go_ret2
 exact ⟨rfl,HB1.out⟩
set_option maxRecDepth 100000 in
set_option maxHeartbeats 4000000 in
theorem print_good (r:Rl) (am ad aw ap:Option Addr) (cm cd cw cp:Nat) (w:World) (hm:Ints w (.slice am r.months.length cm) r.months) (hd:Ints w (.slice ad r.days.length cd) r.days) (hw:Nths w (.slice aw r.weeks.length cw) r.weeks) (hp:Ints w (.slice ap r.pick.length cp) r.pick) (h:rf r=0)
 (hT:Tab w) (hP:Pow w) (hF:FrW w) (hA:PaW w) (hW:WdW w) :
 Calls Tryz.prog 104 #[.agg #[.int .i64 r.freq,.int .i64 r.every,.int .i64 r.count,.int .i64 r.till,.slice am r.months.length cm,.slice ad r.days.length cd,.slice aw r.weeks.length cw,.slice ap r.pick.length cp]] w fun e w'=>e=.returned (.tuple #[.string (tb (rt r)),.nilIface])∧Below w.heap.size w w':=by
 obtain ⟨o1,o2,o3,o4,o5,o6⟩:=rf_good h
 have hwk:wkB r.weeks=true:=by rw [itemsB_eq] at o4;simp at o4;exact o4.2
 have TK:=Lib.hid (tk_rt r hwk)
 have TL:=Lib.hid (tk_len o1 o3 o4)
 have PL:=Lib.hid (pt_len o1 o3 o4)
 obtain ⟨⟨a1,a2⟩,⟨b1,b2⟩,⟨c1,c2⟩,d1,d2'⟩:=of_decide_eq_true o1
 have B0:Below w.heap.size w (w.alloc (.cells #[.int .i64 r.freq,.int .i64 r.every,.int .i64 r.count,.int .i64 r.till,.slice am r.months.length cm,.slice ad r.days.length cd,.slice aw r.weeks.length cw,.slice ap r.pick.length cp] 28)):=(Below.refl _ _).alloc (Nat.le_refl _) _
 have HB:=Lib.hid B0
 have HR:=Lib.hid (RBox.new w r.freq r.every r.count r.till (.slice am r.months.length cm) (.slice ad r.days.length cd) (.slice aw r.weeks.length cw) (.slice ap r.pick.length cp) 28)
 have HC:=Lib.hid (check_walk r am ad aw ap cm cd cw cp _ (hm.on B0) (hd.on B0) (hw.on B0) (hp.on B0))
 have HF:=Lib.hid (fault_zero h)
 have KD:Hid (∀ W,Below w.heap.size w W→Calls Tryz.prog 159 #[.int .i64 r.till] W fun e w'=>e=.returned (.tuple #[.string (tb (dayt r.till)),.nilIface])∧Below W.heap.size W w'):=Lib.hid (fun W hb=>printDay_any r.till W (hT.below hb) (hP.below hb) d1 d2')
 have KP:Hid (∀ W,Below w.heap.size w W→Calls Tryz.prog 160 #[.agg #[.int .i64 r.freq,.int .i64 r.every,.int .i64 r.count,.int .i64 r.till,.slice am r.months.length cm,.slice ad r.days.length cd,.slice aw r.weeks.length cw,.slice ap r.pick.length cp],.string (tb (dayt r.till))] W fun e w'=>e=.returned (.agg #[.string (tb (unt r.every 1)),.string (tb (unt r.count 0)),.string (tb (dayt r.till)),.string (tb (lt nt r.months)),.string (tb (lt nt r.days)),.string (tb (lt wt r.weeks)),.string (tb (lt nt r.pick))])∧Below W.heap.size W w'):=Lib.hid (fun W hb=>printParts_walk r am ad aw ap cm cd cw cp (dayt r.till) W (hm.on hb) (hd.on hb) (hw.on hb) (hp.on hb) (hP.below hb) (hW.below hb) o1 o3 o4)
 have HFr:Hid (∀ W,Below w.heap.size w W→W.cell? ⟨3,r.freq.toNat - 1,none⟩=some (.string (tb (fq r.freq)))):=Lib.hid (fun W hb=>by
  have:=(hF.below hb) (r.freq.toNat - 1) (by omega)
  rwa [show ((r.freq.toNat - 1:Nat):Int) + 1=r.freq by omega] at this)
 have HPa:Hid (∀ W,Below w.heap.size w W→∀ k,k<7→W.cell? ⟨4,k,none⟩=some (.string (tb (kw k)))):=Lib.hid (fun W hb=>hA.below hb)
 clear B0 hm hd hw hp h hT hP hF hA hW o1 o2 o3 o4 o5 o6 hwk b1 b2 c1 c2 d1 d2'
 go_enter Tryz.func104,Tryz.ntmps104
 go_wp2_with fail
 refine HC.out.mono ?_
 rintro e w1 ⟨rfl,hx⟩
 have HB1:=Lib.hid (HB.out.trans (hx.mono HB.out.size))
 have HR1:=Lib.hid (HR.out.on hx)
 rw [HF.out]
 clear hx HB HC HF HR
 obtain ⟨R0,R1,R2,R3,R4,R5,R6,R7⟩:=id HR1.out
 go_wp2_with fail
 clear R0 R1 R2 R3 R4 R5 R6 R7
 refine (KD.out _ HB1.out).mono ?_
 rintro e w2 ⟨rfl,hx⟩
 have HB2:=Lib.hid (HB1.out.trans (hx.mono HB1.out.size))
 have HR2:=Lib.hid (HR1.out.on hx)
 clear hx HB1 HR1 KD
 obtain ⟨R0,R1,R2,R3,R4,R5,R6,R7⟩:=id HR2.out
 have fr:=HFr.out _ HB2.out
 have i1:(0:Int)≤r.freq - 1:=by omega
 have i2:r.freq - 1<4:=by omega
 go_wp2_with fail
 clear R0 R1 R2 R3 R4 R5 R6 R7 fr i1 i2
 refine (KP.out _ HB2.out).mono ?_
 rintro e w3 ⟨rfl,hx⟩
 have HB3:=Lib.hid (HB2.out.trans (hx.mono HB2.out.size))
 clear hx HB2 HR2 KP
 go_wp2
 go_loop [7,8,9,32] (fun s _ _ i=>∃ k:Nat,k≤7∧i=.int .i64 k∧s=.string (tb (tk r k))) (fun _ _ _ i=>7 - (intOf i).toNat)
 case atStart=>exact ⟨0,by omega,rfl,rfl⟩
 case round=>
  obtain ⟨k,hk,rfl,rfl⟩:=hrel
  by_cases hlt:k<7
  ·have ix:=idx7 r k hlt
   have pc:=HPa.out _ HB3.out k hlt
   have k7:(k:Int)<7:=by omega
   by_cases hp:pt r k=[]
   ·have e1:(tb (pt r k)).toList.isEmpty=true:=by rw [Lib.toList_data,tb_data,hp];rfl
    have N1:=Lib.hid (tk_same hp)
    clear hp
    go_wp2
    go_round
    case rel=>exact ⟨k + 1,by omega,by go_num,by rw [N1.out]⟩
    case measure=>simp [intOf];omega
   ·have e1:(tb (pt r k)).toList.isEmpty=false:=by rw [Lib.toList_data,tb_data];simpa using hp
    have N1:=Lib.hid (tk_next hp)
    have s1:(tb (kw k)).size≤6:=by rw [tb_size];exact kw_len k
    have s2:(tb (pt r k)).size≤5000:=by rw [tb_size];exact PL.out k
    have s3:(tb (tk r k)).size≤40000:=by rw [tb_size];have:=TL.out k;omega
    have f1:¬ 9223372036854775807<1 + (tb (kw k)).size:=by omega
    have f2:¬ 9223372036854775807<1 + (tb (kw k)).size + 1:=by omega
    have f3:¬ 9223372036854775807<1 + (tb (kw k)).size + 1 + (tb (pt r k)).size:=by omega
    have f4:¬ 9223372036854775807<(tb (tk r k)).size + (1 + (tb (kw k)).size + 1 + (tb (pt r k)).size):=by omega
    clear hp s1 s2 s3
    go_wp2
    go_round
    case rel=>exact ⟨k + 1,by omega,by go_num,by rw [← N1.out]⟩
    case measure=>simp [intOf];omega
  ·obtain rfl:k=7:=by omega
   go_wp2
   go_ret2
   exact ⟨ret_strNil2 (by rw [TK.out]),HB3.out⟩
theorem rprint_any (r:Rl) (v:Value) (w:World) (hv:RuleIn w v r) (hT:Tab w) (hP:Pow w) (hF:FrW w) (hA:PaW w) (hW:WdW w) :
 Calls Tryz.prog 104 #[v] w fun e w'=>e=.returned (.tuple #[.string (tb (if rf r=0 then rt r else [])),fault (rf r)])∧Below w.heap.size w w':=by
 obtain ⟨vm,vd,vw,vp,rfl,hm,hd,hw,hp⟩:=hv
 obtain ⟨am,cm,rfl,x1⟩:=id hm
 obtain ⟨ad,cd,rfl,x2⟩:=id hd
 obtain ⟨aw,cw,rfl,x3⟩:=id hw
 obtain ⟨ap,cp,rfl,x4⟩:=id hp
 by_cases h:rf r=0
 ·rw [if_pos h,fault_zero h]
  exact print_good r am ad aw ap cm cd cw cp w hm hd hw hp h hT hP hF hA hW
 ·rw [if_neg h,fault_some h]
  exact print_bad r am ad aw ap cm cd cw cp w hm hd hw hp h
end Go.Proofs.YtcadomjkjoiakaaGreatDoor
