/-
  Texts of our own that serve the card of this claim, joined into one.
-/
import Derived.Test.YtcadomjkjoiakaaGreatDoorQB
import Derived.Lib.SplitLaws
import Derived.Lib.IndexLaws
import Derived.Lib.IndexBytes
import Derived.Test.YtcadomjkjoiakaaGreatDoorQU
import Derived.Test.YtcadomjkjoiakaaGreatDoorQH
import Derived.Test.YtcadomjkjoiakaaGreatDoorQK
import Derived.Deep.RegionHeld3
namespace Go.Proofs.YtcadomjkjoiakaaGreatDoor.Txt
open Go.Lib
theorem splitK_cut (c:UInt8):∀ (n:Nat) (s:List UInt8),s.length≤n→splitK [c] 0 (s.count c) s=cutAt c s:=by
 intro n
 induction n with
 | zero=>
   intro s hs
   have:s=[]:=List.eq_nil_of_length_eq_zero (by omega)
   subst this
   rfl
 | succ n ih=>
   intro s hs
   by_cases h:indexByte s c=-1
   ·have hn:c ∉ s:=fun hm=>by
     obtain ⟨k,hk⟩:=List.getElem?_of_mem hm
     exact indexByte_none h k hk
    rw [List.count_eq_zero_of_not_mem hn,cut_plain c s hn]
    rfl
   ·obtain ⟨o,ho⟩:∃ o:Nat,indexByte s c=o:=⟨(indexByte s c).toNat,by have:=indexByte_ge s c;omega⟩
    obtain ⟨h1,h2⟩:=indexByte_some ho
    have hlt:o<s.length:=(List.getElem?_eq_some_iff.1 h1).1
    have hdrop:s.drop o=c :: s.drop (o + 1):=by
     rw [List.drop_eq_getElem_cons hlt]
     congr 1
     exact (List.getElem?_eq_some_iff.1 h1).2
    have hsp:s=s.take o++c :: s.drop (o + 1):=by rw [← hdrop,List.take_append_drop]
    have hna:c ∉ s.take o:=fun hm=>by
     obtain ⟨k,hk⟩:=List.getElem?_of_mem hm
     have hko:k<o:=by
      have:=(List.getElem?_eq_some_iff.1 hk).1
      rw [List.length_take] at this
      omega
     rw [List.getElem?_take,if_pos hko] at hk
     exact h2 k hko hk
    have hcount:s.count c=(s.drop (o + 1)).count c + 1:=by
     conv=>lhs;rw [hsp]
     rw [List.count_append,List.count_eq_zero_of_not_mem hna,List.count_cons_self]
     omega
    rw [hcount]
    show (if index s [c] == -1 then [s] else s.take ((index s [c]).toNat + 0) :: splitK [c] 0 ((s.drop (o + 1)).count c) (s.drop ((index s [c]).toNat + [c].length)))=_
    rw [index_one,ho]
    have e1:((o:Int) == -1)=false:=by
     rw [beq_eq_false_iff_ne];omega
    rw [e1]
    show s.take ((o:Int).toNat + 0) :: splitK [c] 0 _ (s.drop ((o:Int).toNat + 1))=_
    rw [Int.toNat_natCast,Nat.add_zero,ih _ (by rw [List.length_drop];omega)]
    conv=>rhs;rw [hsp]
    rw [cut_app c _ _ hna]
theorem cut_len (c:UInt8) (s:List UInt8):(cutAt c s).length=s.count c + 1:=by
 induction s with
 | nil=>rfl
 | cons b l ih=>
   by_cases h:b=c
   ·subst h
    rw [show b :: l=[]++b :: l from rfl,cut_app b [] l (by simp)]
    simp [ih]
   ·have hb:(b == c)=false:=by simpa using h
    rw [List.count_cons,hb]
    unfold cutAt
    rw [if_neg h,List.length_cons,List.length_tail,ih]
    simp
end Go.Proofs.YtcadomjkjoiakaaGreatDoor.Txt
namespace Go.Proofs.YtcadomjkjoiakaaGreatDoor.Txt
open Go.Lib Cal
def tl1:List UInt8:=[32,48,48,58,48,49]
theorem frm_tl1 (l:List UInt8):frm (l++tl1)=dfB l:=by
 unfold dfB
 by_cases h:l.length=10
 ·rw [Bool.eq_iff_iff,frm_iff,frm_iff]
  have e1:(l++tl1).length=16:=by rw [List.length_append,h];rfl
  have e2:(l++mid).length=16:=by rw [List.length_append,h];rfl
  have key:∀ i,i<16→fit (fm.getD i 0) ((l++tl1).getD i 0)=fit (fm.getD i 0) ((l++mid).getD i 0):=fun i hi=>by
   by_cases hl:i<10
   ·rw [List.getD_eq_getElem?_getD,List.getD_eq_getElem?_getD,List.getD_eq_getElem?_getD,List.getElem?_append_left (by omega),List.getElem?_append_left (by omega)]
   ·obtain ⟨j,rfl⟩:∃ j,i=10 + j:=⟨i - 10,by omega⟩
    have g1:(l++tl1).getD (10 + j) 0=tl1.getD j 0:=by
     rw [List.getD_eq_getElem?_getD,List.getD_eq_getElem?_getD,List.getElem?_append_right (by omega),h]
     congr 2;omega
    have g2:(l++mid).getD (10 + j) 0=mid.getD j 0:=by
     rw [List.getD_eq_getElem?_getD,List.getD_eq_getElem?_getD,List.getElem?_append_right (by omega),h]
     congr 2;omega
    rw [g1,g2]
    rcases (by omega:j=0∨j=1∨j=2∨j=3∨j=4∨j=5) with rfl | rfl | rfl | rfl | rfl | rfl <;> decide
  constructor
  ·rintro ⟨_,h2⟩;exact ⟨e2,fun i hi=>by rw [← key i hi];exact h2 i hi⟩
  ·rintro ⟨_,h2⟩;exact ⟨e1,fun i hi=>by rw [key i hi];exact h2 i hi⟩
 ·rw [frm_short (by rw [List.length_append];show ¬ l.length + 6=16;omega),frm_short (by rw [List.length_append];show ¬ l.length + 6=16;omega)]
theorem nm_tl1 {l:List UInt8} (h:l.length=10):nm (l++tl1) 0 4=nm l 0 4∧nm (l++tl1) 5 7=nm l 5 7∧nm (l++tl1) 8 10=nm l 8 10∧nm (l++tl1) 11 13=0∧nm (l++tl1) 14 16=1:=by
 refine ⟨nm_app _ _ _ _ (by omega),nm_app _ _ _ _ (by omega),nm_app _ _ _ _ (by omega),?_,?_⟩
 ·unfold nm
  rw [List.drop_append,List.drop_eq_nil_of_le (by omega),h]
  decide
 ·unfold nm
  rw [List.drop_append,List.drop_eq_nil_of_le (by omega),h]
  decide
theorem day_some {l:List UInt8} {n:Int} (h:dr l=some n):frm (l++tl1)=true∧good (l++tl1)∧raw (l++tl1)=(n - 1) * 1440 + 1∧1≤n∧n≤109573:=by
 have hb:=(dt_dr h).2
 unfold dr at h
 split at h
 ·rename_i e
  rw [Bool.and_eq_true] at e
  have hl:=dfB_len e.1
  obtain ⟨q1,q2,q3,q4,q5⟩:=nm_tl1 hl
  have hn:num (nm l 0 4) (nm l 5 7) (nm l 8 10)=n:=Option.some.inj h
  have hr:raw (l++tl1)=(n - 1) * 1440 + 1:=by
   unfold raw
   rw [q1,q2,q3,q4,q5,hn]
   omega
  refine ⟨by rw [frm_tl1];exact e.1,⟨?_,?_,?_,?_⟩,hr,hb.1,hb.2⟩
  ·rw [q1,q2,q3];exact okB_iff.1 e.2
  ·rw [q4];decide
  ·rw [q5];decide
  ·rw [hr];omega
 ·cases h
theorem day_none {l:List UInt8} (h:dr l=none):frm (l++tl1)=false∨(frm (l++tl1)=true∧nm (l++tl1) 14 16≤59∧¬ good (l++tl1)):=by
 unfold dr at h
 split at h
 ·cases h
 ·rename_i e
  rcases hd:dfB l with _ | _
  ·exact Or.inl (by rw [frm_tl1];exact hd)
  ·have hl:=dfB_len hd
   obtain ⟨q1,q2,q3,q4,q5⟩:=nm_tl1 hl
   refine Or.inr ⟨by rw [frm_tl1];exact hd,by rw [q5];decide,fun g=>?_⟩
   have g1:=g.1
   rw [q1,q2,q3] at g1
   exact e (by rw [hd,okB_iff.2 g1];rfl)
end Go.Proofs.YtcadomjkjoiakaaGreatDoor.Txt
namespace Go.Proofs.YtcadomjkjoiakaaGreatDoor
open Go.RowKit Cal Txt
theorem infoStr:(Tryz.prog.info? (Tryz.lays146_ren.t 9)).map (fun i=>(i.zero,i.size,i.bytes))=some (some (.string ByteArray.empty),1,16):=by kernel_rfl
theorem countB_one (s:ByteArray) (c:UInt8):Lib.countB s ⟨#[c]⟩=s.data.toList.count c:=Lib.count_one c _
theorem indexB_one (s:ByteArray) (c:UInt8):Lib.indexB s ⟨#[c]⟩=Lib.indexByte s.data.toList c:=Lib.index_one _ c
theorem one_size (c:UInt8):1≤(⟨#[c]⟩:ByteArray).size:=Nat.le_refl 1
theorem genSplit_one (s:ByteArray) (c:UInt8) (w:World) (hs:s.size<4294967281) :
 Calls Tryz.prog 217 #[.string s,.string ⟨#[c]⟩,.int .i64 0,.int .i64 (-1)] w fun e w'=>
  e=.returned (.slice (some ⟨w.heap.size,0,none⟩) (s.data.toList.count c + 1) (s.data.toList.count c + 1))∧w'=w.alloc (.cells ((Lib.splitB ⟨#[c]⟩ 0 (s.data.toList.count c) s).map Value.string).toArray 9):=by
 have L:=Tryz.lays146
 have hle:=Lib.countB_le ⟨#[c]⟩ (one_size c) s.size s (Nat.le_refl _)
 have hlen:=Lib.splitB_all ⟨#[c]⟩ (one_size c) 0 _ s rfl
 rw [countB_one] at hle hlen
 have k:=Any.strings_genSplit_core (P:=Tryz.prog) (ρ:=Tryz.lays146_ren) { L with } infoStr s ⟨#[c]⟩ 0 (-1) (s.data.toList.count c + 1) w hs (one_size c) (Nat.zero_le _)
  (fun x cs _=>by rw [indexB_one];exact Any.strings_Index_one { L with } x c _)
  (by rw [countB_one];exact Any.strings_Count_one { L with } s c w) (by decide) (by decide) (by rw [if_pos (by decide),countB_one];omega)
 rw [Nat.add_sub_cancel,hlen] at k
 have e2:Lib.cellsOf (Lib.splitB ⟨#[c]⟩ 0 (s.data.toList.count c) s) (s.data.toList.count c + 1)=((Lib.splitB ⟨#[c]⟩ 0 (s.data.toList.count c) s).map Value.string).toArray:=by rw [← hlen];exact Lib.cellsOf_full _
 rw [e2] at k
 exact k
def pcs (c:UInt8) (s:ByteArray):List ByteArray:=Lib.splitB ⟨#[c]⟩ 0 (s.data.toList.count c) s
theorem pcs_cut (c:UInt8) (s:ByteArray):(pcs c s).map (·.data.toList)=cutAt c s.data.toList:=by
 unfold pcs
 rw [Lib.splitB_data]
 exact splitK_cut c _ _ (Nat.le_refl _)
theorem pcs_len (c:UInt8) (s:ByteArray):(pcs c s).length=s.data.toList.count c + 1:=by
 have:=congrArg List.length (pcs_cut c s)
 rwa [List.length_map,cut_len] at this
theorem genSplit_pcs (s:ByteArray) (c:UInt8) (w:World) (hs:s.size<4294967281) :
 Calls Tryz.prog 217 #[.string s,.string ⟨#[c]⟩,.int .i64 0,.int .i64 (-1)] w fun e w'=>
  e=.returned (.slice (some ⟨w.heap.size,0,none⟩) (pcs c s).length (pcs c s).length)∧w'=w.alloc (.cells ((pcs c s).map Value.string).toArray 9):=by
 have:=genSplit_one s c w hs
 rw [← pcs_len] at this
 exact this
theorem split_one (s:ByteArray) (c:UInt8) (w:World) (hs:s.size<4294967281) :
 Calls Tryz.prog 174 #[.string s,.string ⟨#[c]⟩] w fun e w'=>
  e=.returned (.slice (some ⟨w.heap.size,0,none⟩) (pcs c s).length (pcs c s).length)∧w'=w.alloc (.cells ((pcs c s).map Value.string).toArray 9):=by
 have k:=Lib.hid (genSplit_pcs s c w hs)
 go_enter Tryz.func174,Tryz.ntmps174
 go_wp2_with fail
 refine k.out.mono ?_
 rintro e w' ⟨rfl,hw⟩
 subst hw
 go_wp2
 go_ret
 exact ⟨rfl,rfl⟩
def ErS (w:World):Prop:=(∃ te pe,w.cell? ⟨9,0,none⟩=some (.iface te pe))∧∃ te pe,w.cell? ⟨10,0,none⟩=some (.iface te pe)
theorem ErS.below {w w':World} (h:ErS w) (b:Below w.heap.size w w'):ErS w':=by
 obtain ⟨⟨t1,p1,h1⟩,t2,p2,h2⟩:=h
 exact ⟨⟨t1,p1,(b.cell (p:=⟨9,0,none⟩) (cell_lt h1)).trans h1⟩,t2,p2,(b.cell (p:=⟨10,0,none⟩) (cell_lt h2)).trans h2⟩
def numA (o:Option Int):Value:=.tuple #[.int .i64 (o.getD 0),.bool o.isSome]
theorem numA_none {o:Option Int} (h:o=none):numA o=.tuple #[.int .i64 0,.bool false]:=by rw [h];rfl
theorem numA_some {o:Option Int} {n:Int} (h:o=some n):numA o=.tuple #[.int .i64 n,.bool true]:=by rw [h];rfl
set_option maxRecDepth 100000 in
set_option maxHeartbeats 2000000 in
theorem parseNumber_any (s:ByteArray) (w:World) (hP:Pow w) (hE:ErS w) (hs:s.size≤2000000) :
 Calls Tryz.prog 235 #[.string s] w fun e w'=>e=.returned (numA (nr 4 s.data.toList))∧Below w.heap.size w w':=by
 rcases ho:Lib.atoiAll s.data.toList with v | _ | _
 ·have KA:Hid (Calls Tryz.prog 218 #[.string s] w fun e w'=>e=.returned (.tuple #[.int .i64 v,.nilIface])∧Below w.heap.size w w'):=Lib.hid (by
   refine (Tryz.strconv_Atoi_ok s (by omega) v ho w).mono ?_
   rintro e w' ⟨rfl,hw⟩
   refine ⟨rfl,?_⟩
   rcases hw with rfl | ⟨t,rfl⟩
   ·exact Below.refl _ _
   ·exact Lib.bytesWorld_below w _ t)
  obtain ⟨v0,v1⟩:=Lib.atoiAll_bounds ho
  rcases (by omega:v < -9999∨(-9999≤v∧9999<v)∨(-9999≤v∧v≤9999)) with c | ⟨c,d⟩ | ⟨c,d⟩
  ·have N1:Hid (nr 4 s.data.toList=none):=Lib.hid (by
    rcases e:nr 4 s.data.toList with _ | n
    ·rfl
    ·have k:=nr_some e
     have:=atoi_nt n k.2
     rw [k.1,ho] at this
     have:v=n:=by injection this
     omega)
   rw [numA_none N1.out]
   go_enter Tryz.func235,Tryz.ntmps235
   go_wp2_with fail
   refine KA.out.mono ?_
   rintro e w1 ⟨rfl,hb⟩
   go_wp2
   go_ret2
   exact ⟨rfl,hb⟩
  ·have N1:Hid (nr 4 s.data.toList=none):=Lib.hid (by
    rcases e:nr 4 s.data.toList with _ | n
    ·rfl
    ·have k:=nr_some e
     have:=atoi_nt n k.2
     rw [k.1,ho] at this
     have:v=n:=by injection this
     omega)
   rw [numA_none N1.out]
   go_enter Tryz.func235,Tryz.ntmps235
   go_wp2_with fail
   refine KA.out.mono ?_
   rintro e w1 ⟨rfl,hb⟩
   go_wp2
   go_ret2
   exact ⟨rfl,hb⟩
  ·by_cases hn:nt v=s.data.toList
   ·have N1:Hid (nr 4 s.data.toList=some v):=Lib.hid (by rw [← hn];exact nr_nt v 3 (by omega))
    have e1:((tb (nt v)).toList == s.toList)=true:=by rw [Lib.toList_data,Lib.toList_data,tb_data,hn];simp
    rw [numA_some N1.out]
    have HP:=Lib.hid hP
    clear hn N1 ho hP
    go_enter Tryz.func235,Tryz.ntmps235
    go_wp2_with fail
    refine KA.out.mono ?_
    rintro e w1 ⟨rfl,hb⟩
    have HP1:=HP.out.below hb
    go_wp2_with fail
    refine (itoa_nt v _ HP1 v0 v1).mono ?_
    rintro e w2 ⟨rfl,hb2⟩
    go_wp2
    go_ret2
    exact ⟨rfl,hb.trans (hb2.mono hb.size)⟩
   ·have N1:Hid (nr 4 s.data.toList=none):=Lib.hid (by
     rcases e:nr 4 s.data.toList with _ | n
     ·rfl
     ·have k:=nr_some e
      have:=atoi_nt n k.2
      rw [k.1,ho] at this
      have:v=n:=by injection this
      exact absurd (by rw [this];exact k.1) hn)
    have e1:((tb (nt v)).toList == s.toList)=false:=by rw [Lib.toList_data,Lib.toList_data,tb_data];simpa using hn
    rw [numA_none N1.out]
    have HP:=Lib.hid hP
    clear hn N1 ho hP
    go_enter Tryz.func235,Tryz.ntmps235
    go_wp2_with fail
    refine KA.out.mono ?_
    rintro e w1 ⟨rfl,hb⟩
    have HP1:=HP.out.below hb
    go_wp2_with fail
    refine (itoa_nt v _ HP1 v0 v1).mono ?_
    rintro e w2 ⟨rfl,hb2⟩
    go_wp2
    go_ret2
    exact ⟨rfl,hb.trans (hb2.mono hb.size)⟩
 all_goals
  have N1:Hid (nr 4 s.data.toList=none):=Lib.hid (by
   rcases e:nr 4 s.data.toList with _ | n
   ·rfl
   ·have k:=nr_some e
    have:=atoi_nt n k.2
    rw [k.1,ho] at this
    cases this)
  obtain ⟨⟨t1,p1,h1⟩,t2,p2,h2⟩:=hE
  rw [numA_none N1.out]
 ·have KA:=Lib.hid (Tryz.strconv_Atoi_syntax s (by omega) ho _ w h1 (Or.inr ⟨_,_,rfl⟩))
  clear h1 h2 ho N1 hP
  go_enter Tryz.func235,Tryz.ntmps235
  go_wp2_with fail
  refine KA.out.mono ?_
  rintro e w1 ⟨N,rfl,_,_,hb⟩
  go_wp2
  go_ret2
  exact ⟨rfl,hb⟩
 ·have KA:=Lib.hid (Tryz.strconv_Atoi_range s (by omega) ho _ w h2 (Or.inr ⟨_,_,rfl⟩))
  clear h1 h2 ho N1 hP
  go_enter Tryz.func235,Tryz.ntmps235
  go_wp2_with fail
  refine KA.out.mono ?_
  rintro e w1 ⟨N,rfl,_,_,hb⟩
  go_wp2
  go_ret2
  exact ⟨rfl,hb⟩
end Go.Proofs.YtcadomjkjoiakaaGreatDoor
namespace Go.Proofs.YtcadomjkjoiakaaGreatDoor
open Go.RowKit Cal Txt
theorem idx4 (k:Nat) (h:k<4) (W:World):(Instr.index 206 (.agg #[.string (tb (fq 1)),.string (tb (fq 2)),.string (tb (fq 3)),.string (tb (fq 4))]) (.int .i64 k)).run Tryz.prog W=.ok (.string (tb (fq (k + 1)))) W:=by
 rcases (by omega:k=0∨k=1∨k=2∨k=3) with rfl | rfl | rfl | rfl <;> kernel_rfl
theorem idxW (k:Nat) (h:k<7) (W:World):(Instr.index 207 (.agg #[.string (tb (dn 1)),.string (tb (dn 2)),.string (tb (dn 3)),.string (tb (dn 4)),.string (tb (dn 5)),.string (tb (dn 6)),.string (tb (dn 7))]) (.int .i64 k)).run Tryz.prog W=.ok (.string (tb (dn (k + 1)))) W:=by
 rcases seven h with rfl | rfl | rfl | rfl | rfl | rfl | rfl <;> kernel_rfl
def posA (n:Int):Value:=.tuple #[.int .i64 n,.bool (decide (¬ n=0))]
theorem posA_none {n:Int} (h:n=0):posA n=.tuple #[.int .i64 0,.bool false]:=by rw [h];rfl
theorem posA_some {n m:Int} (h:n=m) (hm:¬ m=0):posA n=.tuple #[.int .i64 m,.bool true]:=by rw [h];unfold posA;rw [decide_eq_true hm]
set_option maxRecDepth 100000 in
set_option maxHeartbeats 2000000 in
theorem parseFreq_any (s:ByteArray) (w:World) (hF:FrW w) :
 Calls Tryz.prog 215 #[.string s] w fun e w'=>e=.returned (posA (fk s.data.toList))∧w'=w:=by
 have c0:w.cell? ⟨3,0,none⟩=some (.string (tb (fq 1))):=hF 0 (by decide)
 have c1:w.cell? ⟨3,1,none⟩=some (.string (tb (fq 2))):=hF 1 (by decide)
 have c2:w.cell? ⟨3,2,none⟩=some (.string (tb (fq 3))):=hF 2 (by decide)
 have c3:w.cell? ⟨3,3,none⟩=some (.string (tb (fq 4))):=hF 3 (by decide)
 clear hF
 go_enter Tryz.func215,Tryz.ntmps215
 go_wp2
 go_loop [4,5,7] (fun _ _ i=>∃ k:Nat,k≤4∧i=.int .i64 k∧∀ j:Nat,j<k→fq (j + 1)≠s.data.toList) (fun _ _ i=>4 - (intOf i).toNat)
 case atStart=>exact ⟨0,by omega,rfl,fun j hj=>by omega⟩
 case round=>
  obtain ⟨k,hk,rfl,hF⟩:=hrel
  have HF:=Lib.hid hF
  clear hF
  by_cases hlt:k<4
  ·have ix:=idx4 k hlt
   have k4:(k:Int)<4:=by omega
   by_cases he:fq (k + 1)=s.data.toList
   ·have e1:((tb (fq (k + 1))).toList == s.toList)=true:=by rw [Lib.toList_data,Lib.toList_data,tb_data,he];simp
    have N1:Hid (posA (fk s.data.toList)=.tuple #[.int .i64 (k + 1),.bool true]):=Lib.hid (posA_some (by rw [← he];exact fk_fq (by omega) (by omega)) (by omega))
    clear he
    go_wp2
    go_ret2
    exact ⟨by rw [N1.out];rfl,rfl⟩
   ·have e1:((tb (fq (k + 1))).toList == s.toList)=false:=by rw [Lib.toList_data,Lib.toList_data,tb_data];simpa using he
    have N1:Hid (∀ j:Nat,j<k + 1→fq (j + 1)≠s.data.toList):=Lib.hid (fun j hj=>by
     rcases Nat.lt_or_ge j k with g | g
     ·exact HF.out j g
     ·obtain rfl:j=k:=by omega
      exact he)
    clear he
    go_wp2
    go_round
    case rel=>exact ⟨k + 1,by omega,by go_num,N1.out⟩
    case measure=>simp [intOf];omega
  ·have N1:Hid (posA (fk s.data.toList)=.tuple #[.int .i64 0,.bool false]):=Lib.hid (posA_none (by
    by_cases h0:fk s.data.toList=0
    ·exact h0
    ·obtain ⟨q1,q2,q3⟩:=fq_fk h0
     have:=HF.out ((fk s.data.toList).toNat - 1) (by omega)
     rw [show (((fk s.data.toList).toNat - 1:Nat):Int) + 1=fk s.data.toList by omega] at this
     exact absurd q1 this))
   go_wp2
   go_ret2
   exact ⟨by rw [N1.out];rfl,rfl⟩
set_option maxRecDepth 100000 in
set_option maxHeartbeats 2000000 in
theorem parseWeekday_any (s:ByteArray) (w:World) (hW:WdW w) :
 Calls Tryz.prog 259 #[.string s] w fun e w'=>e=.returned (posA (dk s.data.toList))∧w'=w:=by
 have c0:w.cell? ⟨7,0,none⟩=some (.string (tb (dn 1))):=hW 0 (by decide)
 have c1:w.cell? ⟨7,1,none⟩=some (.string (tb (dn 2))):=hW 1 (by decide)
 have c2:w.cell? ⟨7,2,none⟩=some (.string (tb (dn 3))):=hW 2 (by decide)
 have c3:w.cell? ⟨7,3,none⟩=some (.string (tb (dn 4))):=hW 3 (by decide)
 have c4:w.cell? ⟨7,4,none⟩=some (.string (tb (dn 5))):=hW 4 (by decide)
 have c5:w.cell? ⟨7,5,none⟩=some (.string (tb (dn 6))):=hW 5 (by decide)
 have c6:w.cell? ⟨7,6,none⟩=some (.string (tb (dn 7))):=hW 6 (by decide)
 clear hW
 go_enter Tryz.func259,Tryz.ntmps259
 go_wp2
 go_loop [4,5,7] (fun _ _ i=>∃ k:Nat,k≤7∧i=.int .i64 k∧∀ j:Nat,j<k→dn (j + 1)≠s.data.toList) (fun _ _ i=>7 - (intOf i).toNat)
 case atStart=>exact ⟨0,by omega,rfl,fun j hj=>by omega⟩
 case round=>
  obtain ⟨k,hk,rfl,hF⟩:=hrel
  have HF:=Lib.hid hF
  clear hF
  by_cases hlt:k<7
  ·have ix:=idxW k hlt
   have k4:(k:Int)<7:=by omega
   by_cases he:dn (k + 1)=s.data.toList
   ·have e1:((tb (dn (k + 1))).toList == s.toList)=true:=by rw [Lib.toList_data,Lib.toList_data,tb_data,he];simp
    have N1:Hid (posA (dk s.data.toList)=.tuple #[.int .i64 (k + 1),.bool true]):=Lib.hid (posA_some (by rw [← he];exact dk_dn (by omega) (by omega)) (by omega))
    clear he
    go_wp2
    go_ret2
    exact ⟨by rw [N1.out];rfl,rfl⟩
   ·have e1:((tb (dn (k + 1))).toList == s.toList)=false:=by rw [Lib.toList_data,Lib.toList_data,tb_data];simpa using he
    have N1:Hid (∀ j:Nat,j<k + 1→dn (j + 1)≠s.data.toList):=Lib.hid (fun j hj=>by
     rcases Nat.lt_or_ge j k with g | g
     ·exact HF.out j g
     ·obtain rfl:j=k:=by omega
      exact he)
    clear he
    go_wp2
    go_round
    case rel=>exact ⟨k + 1,by omega,by go_num,N1.out⟩
    case measure=>simp [intOf];omega
  ·have N1:Hid (posA (dk s.data.toList)=.tuple #[.int .i64 0,.bool false]):=Lib.hid (posA_none (by
    by_cases h0:dk s.data.toList=0
    ·exact h0
    ·obtain ⟨q1,q2,q3⟩:=dn_dk h0
     have:=HF.out ((dk s.data.toList).toNat - 1) (by omega)
     rw [show (((dk s.data.toList).toNat - 1:Nat):Int) + 1=dk s.data.toList by omega] at this
     exact absurd q1 this))
   go_wp2
   go_ret2
   exact ⟨by rw [N1.out];rfl,rfl⟩
theorem tl1_data (s:ByteArray):(s++(⟨#[32,48,48,58,48,49]⟩:ByteArray)).data.toList=s.data.toList++tl1:=by simp [tl1]
set_option maxRecDepth 100000 in
set_option maxHeartbeats 2000000 in
theorem parseDay_any (s:ByteArray) (w:World) (hT:Tab w) (hs:s.size≤2000000) :
 Calls Tryz.prog 236 #[.string s] w fun e w'=>e=.returned (numA (dr s.data.toList))∧Below w.heap.size w w':=by
 have f1:¬ 9223372036854775807<s.size + 6:=by omega
 rcases h:dr s.data.toList with _ | n
 ·have KP:Hid (∃ k,¬ k=0∧Calls Tryz.prog 111 #[.string (s++⟨#[32,48,48,58,48,49]⟩)] w fun e w'=>e=.returned (.tuple #[.int .i64 0,.iface 73 (.int .i64 k)])∧Below w.heap.size w w'):=Lib.hid (by
   rcases day_none h with k | ⟨k1,k2,k3⟩
   ·exact ⟨2,by decide,parse_bad _ w (by rw [tl1_data];exact k)⟩
   ·exact ⟨1,by decide,parse_none _ w hT (by rw [tl1_data];exact k1) (by rw [tl1_data];exact k2) (by rw [tl1_data];exact k3)⟩)
  obtain ⟨k,_,K⟩:=KP.out
  have HK:=Lib.hid K
  clear KP K h hT
  rw [numA_none rfl]
  go_enter Tryz.func236,Tryz.ntmps236
  go_wp2_with fail
  refine HK.out.mono ?_
  rintro e w1 ⟨rfl,hb⟩
  go_wp2
  go_ret2
  exact ⟨rfl,hb⟩
 ·obtain ⟨k1,k2,k3,k4,k5⟩:=day_some h
  have HK:=Lib.hid (parse_yes (s++⟨#[32,48,48,58,48,49]⟩) w hT (by rw [tl1_data];exact k1) (by rw [tl1_data];exact k2))
  rw [tl1_data,k3] at HK
  have N1:Hid (((n - 1) * 1440 + 1) / 1440 + 1=n):=Lib.hid (by omega)
  clear k1 k2 k3 h hT
  rw [numA_some rfl]
  go_enter Tryz.func236,Tryz.ntmps236
  go_wp2_with fail
  refine HK.out.mono ?_
  rintro e w1 ⟨rfl,hb⟩
  go_wp2_with fail
  refine (split_yes _ _ (by omega) (by omega)).mono ?_
  rintro e w2 ⟨rfl,hw⟩
  subst hw
  rw [N1.out]
  go_wp2_with fail
  go_quiet (fail)
  go_wp2
  go_ret2
  exact ⟨rfl,below_drewN hb _⟩
end Go.Proofs.YtcadomjkjoiakaaGreatDoor
namespace Go.Proofs.YtcadomjkjoiakaaGreatDoor
open Go.RowKit Cal Txt
theorem mapO_none {α:Type} (rd:List UInt8→Option α):∀ (ws:List (List UInt8)) (x:List UInt8),x∈ws→rd x=none→mapO rd ws=none
 | [],_,h,_=>by cases h
 | a :: r,x,h,hx=>by
   unfold mapO
   rcases List.mem_cons.1 h with rfl | k
   ·rw [hx]
   ·rw [mapO_none rd r x k hx]
    split <;> first | rfl | (rename_i e _;cases e) | rfl
theorem mapO_snoc {α:Type} (rd:List UInt8→Option α):∀ (ws:List (List UInt8)) (xs:List α) (x:List UInt8) (y:α),mapO rd ws=some xs→rd x=some y→mapO rd (ws++[x])=some (xs++[y])
 | [],xs,x,y,h,hx=>by
   have:xs=[]:=by unfold mapO at h;exact (Option.some.inj h).symm
   subst this
   show mapO rd [x]=some [y]
   unfold mapO
   rw [hx]
   rfl
 | a :: r,xs,x,y,h,hx=>by
   show mapO rd (a :: (r++[x]))=_
   unfold mapO at h ⊢
   rcases ha:rd a with _ | v
   ·rw [ha] at h;cases h
   ·rw [ha] at h
    rcases hr:mapO rd r with _ | vs
    ·rw [hr] at h;cases h
    ·rw [hr] at h
     have:xs=v :: vs:=(Option.some.inj h).symm
     subst this
     rw [mapO_snoc rd r vs x y hr hx]
     rfl
def rdK {α:Type} (rd:List UInt8→Option α) (ps:List ByteArray) (k:Nat):Option (List α):=mapO rd ((ps.take k).map (·.data.toList))
theorem rdK_next {α:Type} (rd:List UInt8→Option α) (ps:List ByteArray) (k:Nat) (xs:List α) (y:α) (h:k<ps.length) (hx:rdK rd ps k=some xs) (hy:rd (ps[k]).data.toList=some y):rdK rd ps (k + 1)=some (xs++[y]):=by
 unfold rdK
 rw [List.take_succ_eq_append_getElem h,List.map_append]
 exact mapO_snoc rd _ _ _ _ hx hy
theorem rdK_none {α:Type} (rd:List UInt8→Option α) (s:ByteArray) (k:Nat) (h:k<(pcs 44 s).length) (hy:rd ((pcs 44 s)[k]).data.toList=none):lr rd s.data.toList=none:=by
 unfold lr
 rw [← pcs_cut]
 exact mapO_none rd _ _ (List.mem_map.2 ⟨_,List.getElem_mem h,rfl⟩) hy
theorem rdK_all {α:Type} (rd:List UInt8→Option α) (s:ByteArray) (k:Nat) (xs:List α) (h:¬ k<(pcs 44 s).length) (hx:rdK rd (pcs 44 s) k=some xs):lr rd s.data.toList=some xs:=by
 unfold lr
 rw [← pcs_cut]
 unfold rdK at hx
 rwa [List.take_of_length_le (by omega)] at hx
theorem own_grow {w wr w1 w2:World} {B:Nat} {e:TypeId} {sz:Nat} {v:Value} {k:Nat} {ys:List Value} {o:Obj} (hB:B≤wr.heap.size) (hb:Below B w wr) (hx:Below wr.heap.size wr w1)
 (hown:wr.ownsRow B e sz v k ys) (hgrow:(w1.alloc o).grownBy w2 v.ownBlock):Below B w w2:=by
 have h1:Below B w w1:=hb.trans (hx.mono hB)
 have hs:=hx.size
 refine (h1.alloc (by omega) o).grown hgrow (by simp;omega) (fun j hj=>?_)
 have:=(hown.lt j hj).1
 omega
theorem pcs_size (c:UInt8) (s:ByteArray):∀ x∈pcs c s,x.size≤s.size:=fun x hx=>by
 have h1:x.data.toList∈cutAt c s.data.toList:=by rw [← pcs_cut];exact List.mem_map.2 ⟨x,hx,rfl⟩
 have h2:∀ (l w:List UInt8),w∈cutAt c l→w.length≤l.length:=fun l=>by
  intro w hw
  have hj:=join_cut c l
  have:∀ (ws:List (List UInt8)),w∈ws→w.length≤(joinBy c ws).length:=fun ws=>by
   induction ws with
   | nil=>intro h;cases h
   | cons a r ih=>
     intro h
     cases r with
     | nil=>
       rcases List.mem_cons.1 h with rfl | k
       ·exact Nat.le_refl _
       ·cases k
     | cons b r=>
       rw [joinBy_cons _ _ (by simp),List.length_append,List.length_cons]
       rcases List.mem_cons.1 h with rfl | k
       ·omega
       ·have:=ih k;omega
  have:=this _ hw
  rwa [hj] at this
 have:=h2 _ _ h1
 simpa using this
def NewB (n:Nat) (v:Value):Prop:=∀ a k c,v=.slice (some a) k c→n≤a.block
theorem own_new {W:World} {base n:Nat} {e:TypeId} {sz:Nat} {v:Value} {m:Nat} {ys:List Value} (h:W.ownsRow base e sz v m ys) (hn:n≤base):NewB n v:=fun a k c hv=>by
 have:=(h.lt a.block (by rw [hv];rfl)).1
 omega
def ListA {α:Type} (R:World→Value→List α→Prop) (w:World) (o:Option (List α)) (e:Ending) (w':World):Prop:=
 Below w.heap.size w w'∧((o=none∧e=.returned (.tuple #[.slice none 0 0,.bool false]))∨∃ xs v,o=some xs∧e=.returned (.tuple #[v,.bool true])∧R w' v xs∧NewB w.heap.size v)
def ints (xs:List Int):List Value:=xs.map (Value.int .i64)
theorem ints_snoc (xs:List Int) (y:Int):ints (xs++[y])=ints xs++[.int .i64 y]:=by simp [ints]
theorem own_ints {W:World} {base:Nat} {e:TypeId} {v:Value} {n:Nat} {xs:List Int} (h:W.ownsRow base e 1 v n (ints xs)):Ints W v xs:=by
 have hl:xs.length=n:=by have:=h.1;simpa [ints] using this
 rcases h.2 with ⟨hv,h0⟩ | ⟨g,cap,cur,hv,hb,hg,hc,hm,hs,ht⟩
 ·exact ⟨none,0,by rw [hv,hl,h0],Or.inl (List.eq_nil_of_length_eq_zero (by omega))⟩
 ·refine ⟨some ⟨g,0,none⟩,cap,by rw [hv,hl],Or.inr ⟨g,0,rfl,fun i hi=>?_⟩⟩
  have:=h.cells (g:=g) (by rw [hv];rfl) i (.int .i64 (xs.getD i 0)) (by unfold ints;rw [List.getElem?_map,List.getElem?_eq_getElem hi,List.getD_eq_getElem?_getD,List.getElem?_eq_getElem hi];rfl)
  have hadd:(⟨g,0,none⟩:Addr).add i=⟨g,0 + i,none⟩:=by unfold Addr.add;split <;> simp_all
  rw [hadd] at this
  exact this
theorem info_parseList_int:(Tryz.prog.info? 3).map (fun i=>(i.zero,i.size,i.bytes))=some (some (.int .i64 0),1,8):=by kernel_rfl
set_option maxRecDepth 100000 in
set_option maxHeartbeats 2000000 in
theorem parseList_int (g:FuncId) (rd:List UInt8→Option (Int)) (eg:∀ args w,(callFunc g args).run Tryz.prog w=.ok (.enter g args) w) (s:ByteArray) (w:World) (hs:s.size≤2000000)
 (hg:∀ x,x.size≤s.size→∀ W,Below w.heap.size w W→Calls Tryz.prog g #[.string x] W fun e w'=>e=.returned (numA (rd x.data.toList))∧Below W.heap.size W w') :
 Calls Tryz.prog 237 #[.string s,.func (.func g) #[] #[]] w (ListA Ints w (lr rd s.data.toList)):=by
 obtain ⟨i0,hi,hz0,hz1,hz2⟩:=info_parts info_parseList_int
 have HG:=Lib.hid hg
 clear hg
 have B0:Below w.heap.size w (w.alloc (.cells ((pcs 44 s).map Value.string).toArray 9)):=(Below.refl _ _).alloc (Nat.le_refl _) _
 have HB:=Lib.hid B0
 have HC:Hid (∀ k (h:k<(pcs 44 s).length),(w.alloc (.cells ((pcs 44 s).map Value.string).toArray 9)).cell? ⟨w.heap.size,k,none⟩=some (.string (pcs 44 s)[k])):=Lib.hid (fun k h=>by simp [h])
 have PL:(pcs 44 s).length≤2000001:=by
  rw [pcs_len]
  have:=List.count_le_length (a:=(44:UInt8)) (l:=s.data.toList)
  have e:s.data.toList.length=s.size:=rfl
  omega
 clear B0
 go_enter Tryz.func237,Tryz.ntmps237
 go_wp2_with fail
 refine (split_one s 44 _ (by omega)).mono ?_
 rintro e w1 ⟨rfl,hw⟩
 subst hw
 have sz1:w.heap.size<(w.alloc (.cells ((pcs 44 s).map Value.string).toArray 9)).heap.size:=by simp
 generalize hW1:w.alloc (.cells ((pcs 44 s).map Value.string).toArray 9)=W1 at HB HC sz1 ⊢
 clear hW1
 go_wp2
 go_loopw [6,14] (fun v i wr=>∃ (k:Nat) (xs:List (Int)),k≤(pcs 44 s).length∧i=.int .i64 k∧rdK rd (pcs 44 s) k=some xs∧xs.length=k∧wr.ownsRow W1.heap.size 3 1 v k (ints xs)∧Below W1.heap.size W1 wr) (fun _ i _=>(pcs 44 s).length - (intOf i).toNat)
 case atStart=>exact ⟨0,[],Nat.zero_le _,rfl,rfl,rfl,World.ownsRow_nil _ _ _ _,Below.refl _ _⟩
 case round=>
  obtain ⟨k,xs,hk,rfl,hx,hxl,hown,hB⟩:=hrel
  have HX:=Lib.hid hx
  have HO:=Lib.hid hown
  have hBw:Below w.heap.size w wr:=HB.out.trans (hB.mono HB.out.size)
  clear hx hown
  by_cases hlt:k<(pcs 44 s).length
  ·have ck:=(hB.cell (p:=⟨w.heap.size,k,none⟩) sz1).trans (HC.out k hlt)
   obtain ⟨x,hxk⟩:∃ x,x=(pcs 44 s)[k]:=⟨_,rfl⟩
   have hsz:x.size≤s.size:=by rw [hxk];exact pcs_size 44 s _ (List.getElem_mem hlt)
   rw [← hxk] at ck
   have HXK:=Lib.hid hxk
   clear hxk
   go_wp2_with fail
   refine (HG.out x hsz _ hBw).mono ?_
   rintro e w2 ⟨rfl,hb⟩
   rcases hr:rd x.data.toList with _ | y
   ·have N0:Hid (lr rd s.data.toList=none):=Lib.hid (rdK_none rd s k hlt (by rw [← HXK.out];exact hr))
    have hB2:=hBw.trans (hb.mono hBw.size)
    clear hr
    rw [numA_none rfl]
    go_wp2
    go_ret2
    exact ⟨hB2,Or.inl ⟨N0.out,rfl⟩⟩
   ·have N1:=Lib.hid (rdK_next rd (pcs 44 s) k xs y hlt HX.out (by rw [← HXK.out];exact hr))
    clear hr
    rw [numA_some rfl]
    have HX0:=Lib.hid hb
    have HO1:=Lib.hid (own_below HO.out hb)
    have sz:W1.heap.size≤w2.heap.size:=by have:=hb.size;have:=hB.size;omega
    clear hb
    go_wp2_with (at_builtin;refine wpList_append_own _ rfl _ _ 25 rfl W1.heap.size 3 i0 (.int .i64 0) 1 8 Tryz.underlying25 hi hz0 hz1 hz2 rfl (by decide) _ _ _ rfl (HO1.out.alloc _) ⟨w2.heap.size,0,none⟩ 1 1 [.int .i64 y] rfl rfl ?c1 ?c2 ?c3 ?c4 ?c5 ?_)
    case c1=>
     intro j u hj
     match j,hj with
     | 0,hj=>simp at hj;subst hj;simp [Addr.add]
    case c2=>intro u hu;simp at hu;subst hu;rfl
    case c3=>unfold maxLen;omega
    case c4=>omega
    case c5=>simp;omega
    intro v' w3 hown' hgrow _
    have R2:=Lib.hid (own_grow hB.size hB HX0.out HO.out hgrow)
    have R1:=Lib.hid hown'
    rw [← ints_snoc] at R1
    clear hown' hgrow HO1 HO HX0
    go_wp2
    go_roundw
    case rel=>exact ⟨k + 1,xs++[y],by omega,by go_num,N1.out,by simp [hxl],R1.out,R2.out⟩
    case measure=>simp [intOf];omega
  ·have N1:=Lib.hid (rdK_all rd s k xs hlt HX.out)
   have RR:=Lib.hid (own_ints HO.out)
   have RN:=Lib.hid (own_new (n:=w.heap.size) HO.out (by omega))
   go_wp2
   go_ret2
   exact ⟨hBw,Or.inr ⟨xs,_,N1.out,rfl,RR.out,RN.out⟩⟩
end Go.Proofs.YtcadomjkjoiakaaGreatDoor
namespace Go.Proofs.YtcadomjkjoiakaaGreatDoor
open Go.RowKit Cal Txt
def nthc (xs:List (Int × Int)):List Value:=xs.flatMap fun x=>[.int .i64 x.1,.int .i64 x.2]
theorem nths_snoc (xs:List (Int × Int)) (y:Int × Int):nthc (xs++[y])=nthc xs++[.int .i64 y.1,.int .i64 y.2]:=by simp [nthc]
theorem nthc_len (xs:List (Int × Int)):(nthc xs).length=xs.length * 2:=by
 induction xs with
 | nil=>rfl
 | cons a r ih=>show ([_,_]++nthc r).length=_;rw [List.length_append,ih,List.length_cons];simp;omega
theorem nthc_at:∀ (xs:List (Int × Int)) (i:Nat),i<xs.length→(nthc xs)[i * 2]?=some (.int .i64 (xs.getD i (0,0)).1)∧(nthc xs)[i * 2 + 1]?=some (.int .i64 (xs.getD i (0,0)).2)
 | a :: r,0,_=>⟨rfl,rfl⟩
 | a :: r,i + 1,h=>by
   have ih:=nthc_at r i (by simpa using h)
   have e1:(i + 1) * 2=i * 2 + 2:=by omega
   show (Value.int .i64 a.1 :: Value.int .i64 a.2 :: nthc r)[(i + 1) * 2]?=_∧(Value.int .i64 a.1 :: Value.int .i64 a.2 :: nthc r)[(i + 1) * 2 + 1]?=_
   rw [e1,show i * 2 + 2 + 1=i * 2 + 1 + 2 by omega]
   simpa using ih
theorem own_nths {W:World} {base:Nat} {e:TypeId} {v:Value} {n:Nat} {xs:List (Int × Int)} (h:W.ownsRow base e 2 v n (nthc xs)):Nths W v xs:=by
 have hl:xs.length=n:=by have:=h.1;rw [nthc_len] at this;omega
 rcases h.2 with ⟨hv,h0⟩ | ⟨g,cap,cur,hv,hb,hg,hc,hm,hs,ht⟩
 ·exact ⟨none,0,by rw [hv,hl,h0],Or.inl (List.eq_nil_of_length_eq_zero (by omega))⟩
 ·refine ⟨some ⟨g,0,none⟩,cap,by rw [hv,hl],Or.inr ⟨g,0,rfl,fun i hi=>?_⟩⟩
  have hadd:∀ j,(⟨g,0,none⟩:Addr).add j=⟨g,0 + j,none⟩:=fun j=>by unfold Addr.add;split <;> simp_all
  obtain ⟨q1,q2⟩:=nthc_at xs i hi
  have c1:=h.cells (g:=g) (by rw [hv];rfl) _ _ q1
  have c2:=h.cells (g:=g) (by rw [hv];rfl) _ _ q2
  rw [hadd] at c1 c2
  exact ⟨c1,by rw [Nat.add_assoc];exact c2⟩
def nthA (o:Option (Int × Int)) (v:Value):Prop:=(o=none∧∃ a b,v=.tuple #[.agg #[.int .i64 a,.int .i64 b],.bool false])∨∃ x,o=some x∧v=.tuple #[.agg #[.int .i64 x.1,.int .i64 x.2],.bool true]
theorem info_parseList_nth:(Tryz.prog.info? 192).map (fun i=>(i.zero,i.size,i.bytes))=some (some (.agg #[.int .i64 0,.int .i64 0]),2,16):=by kernel_rfl
set_option maxRecDepth 100000 in
set_option maxHeartbeats 2000000 in
theorem parseList_nth (g:FuncId) (rd:List UInt8→Option (Int × Int)) (eg:∀ args w,(callFunc g args).run Tryz.prog w=.ok (.enter g args) w) (s:ByteArray) (w:World) (hs:s.size≤2000000)
 (hg:∀ x,x.size≤s.size→∀ W,Below w.heap.size w W→Calls Tryz.prog g #[.string x] W fun e w'=>∃ v,e=.returned v∧nthA (rd x.data.toList) v∧Below W.heap.size W w') :
 Calls Tryz.prog 238 #[.string s,.func (.func g) #[] #[]] w (ListA Nths w (lr rd s.data.toList)):=by
 obtain ⟨i0,hi,hz0,hz1,hz2⟩:=info_parts info_parseList_nth
 have HG:=Lib.hid hg
 clear hg
 have B0:Below w.heap.size w (w.alloc (.cells ((pcs 44 s).map Value.string).toArray 9)):=(Below.refl _ _).alloc (Nat.le_refl _) _
 have HB:=Lib.hid B0
 have HC:Hid (∀ k (h:k<(pcs 44 s).length),(w.alloc (.cells ((pcs 44 s).map Value.string).toArray 9)).cell? ⟨w.heap.size,k,none⟩=some (.string (pcs 44 s)[k])):=Lib.hid (fun k h=>by simp [h])
 have PL:(pcs 44 s).length≤2000001:=by
  rw [pcs_len]
  have:=List.count_le_length (a:=(44:UInt8)) (l:=s.data.toList)
  have e:s.data.toList.length=s.size:=rfl
  omega
 clear B0
 go_enter Tryz.func238,Tryz.ntmps238
 go_wp2_with fail
 refine (split_one s 44 _ (by omega)).mono ?_
 rintro e w1 ⟨rfl,hw⟩
 subst hw
 have sz1:w.heap.size<(w.alloc (.cells ((pcs 44 s).map Value.string).toArray 9)).heap.size:=by simp
 generalize hW1:w.alloc (.cells ((pcs 44 s).map Value.string).toArray 9)=W1 at HB HC sz1 ⊢
 clear hW1
 go_wp2
 go_loopw [6,14] (fun v i wr=>∃ (k:Nat) (xs:List (Int × Int)),k≤(pcs 44 s).length∧i=.int .i64 k∧rdK rd (pcs 44 s) k=some xs∧xs.length=k∧wr.ownsRow W1.heap.size 192 2 v k (nthc xs)∧Below W1.heap.size W1 wr) (fun _ i _=>(pcs 44 s).length - (intOf i).toNat)
 case atStart=>exact ⟨0,[],Nat.zero_le _,rfl,rfl,rfl,World.ownsRow_nil _ _ _ _,Below.refl _ _⟩
 case round=>
  obtain ⟨k,xs,hk,rfl,hx,hxl,hown,hB⟩:=hrel
  have HX:=Lib.hid hx
  have HO:=Lib.hid hown
  have hBw:Below w.heap.size w wr:=HB.out.trans (hB.mono HB.out.size)
  clear hx hown
  by_cases hlt:k<(pcs 44 s).length
  ·have ck:=(hB.cell (p:=⟨w.heap.size,k,none⟩) sz1).trans (HC.out k hlt)
   obtain ⟨x,hxk⟩:∃ x,x=(pcs 44 s)[k]:=⟨_,rfl⟩
   have hsz:x.size≤s.size:=by rw [hxk];exact pcs_size 44 s _ (List.getElem_mem hlt)
   rw [← hxk] at ck
   have HXK:=Lib.hid hxk
   clear hxk
   go_wp2_with fail
   refine (HG.out x hsz _ hBw).mono ?_
   rintro e w2 ⟨v2,rfl,hv2,hb0⟩
   rcases hv2 with ⟨hr,na,nb,rfl⟩ | ⟨y,hr,rfl⟩
   ·have N0:Hid (lr rd s.data.toList=none):=Lib.hid (rdK_none rd s k hlt (by rw [← HXK.out];exact hr))
    have hB1:=hBw.trans (hb0.mono hBw.size)
    have hB2:=hB1.alloc hB1.size (.cells #[.int .i64 na,.int .i64 nb] 192)
    clear hb0 hB1
    clear hr
    go_wp2
    go_ret2
    exact ⟨hB2,Or.inl ⟨N0.out,rfl⟩⟩
   ·have N1:=Lib.hid (rdK_next rd (pcs 44 s) k xs y hlt HX.out (by rw [← HXK.out];exact hr))
    clear hr
    have hb:=hb0.alloc hb0.size (.cells #[.int .i64 y.1,.int .i64 y.2] 192)
    clear hb0
    have HX0:=Lib.hid hb
    have HO1:=Lib.hid (own_below HO.out hb)
    have sz:W1.heap.size≤w2.heap.size + 1:=by have h1:=hb.size;have h2:=hB.size;simp at h1;omega
    clear hb
    go_wp2_with (at_builtin;refine wpList_append_own _ rfl _ _ 26 rfl W1.heap.size 192 i0 (.agg #[.int .i64 0,.int .i64 0]) 2 16 Tryz.underlying26 hi hz0 hz1 hz2 rfl (by decide) _ _ _ rfl (HO1.out.alloc _) ⟨w2.heap.size + 1,0,none⟩ 1 1 [.int .i64 y.1,.int .i64 y.2] rfl rfl ?c1 ?c2 ?c3 ?c4 ?c5 ?_)
    case c1=>
     intro j u hj
     match j,hj with
     | 0,hj=>simp at hj;subst hj;simp [Addr.add]
     | 1,hj=>simp at hj;subst hj;simp [Addr.add]
    case c2=>intro u hu;simp at hu;rcases hu with rfl | rfl <;> rfl
    case c3=>unfold maxLen;omega
    case c4=>omega
    case c5=>simp;omega
    intro v' w3 hown' hgrow _
    have R2:=Lib.hid (own_grow hB.size hB HX0.out HO.out hgrow)
    have R1:=Lib.hid hown'
    rw [← nths_snoc] at R1
    clear hown' hgrow HO1 HO HX0
    go_wp2
    go_roundw
    case rel=>exact ⟨k + 1,xs++[y],by omega,by go_num,N1.out,by simp [hxl],R1.out,R2.out⟩
    case measure=>simp [intOf];omega
  ·have N1:=Lib.hid (rdK_all rd s k xs hlt HX.out)
   have RR:=Lib.hid (own_nths HO.out)
   have RN:=Lib.hid (own_new (n:=w.heap.size) HO.out (by omega))
   go_wp2
   go_ret2
   exact ⟨hBw,Or.inr ⟨xs,_,N1.out,rfl,RR.out,RN.out⟩⟩
end Go.Proofs.YtcadomjkjoiakaaGreatDoor
namespace Go.Proofs.YtcadomjkjoiakaaGreatDoor
open Go.RowKit Cal Txt
def Res2 (W:World) (b:Nat):Prop:=(W.cell? ⟨b,0,none⟩=some (.int .i64 0)∧W.cell? ⟨b,1,none⟩=some (.int .i64 0))∧W.frozen? ⟨b,0,none⟩=false∧W.frozen? ⟨b,1,none⟩=false
theorem Res2.new (W:World) (t:TypeId):Res2 (W.alloc (.cells #[.int .i64 0,.int .i64 0] t)) W.heap.size:=⟨⟨by simp,by simp⟩,by simp,by simp⟩
theorem Res2.lt {W:World} {b:Nat} (h:Res2 W b):b<W.heap.size:=cell_lt h.1.1
theorem Res2.on {W W':World} {b:Nat} (h:Res2 W b) (q:Below W.heap.size W W'):Res2 W' b:=by
 obtain ⟨c,f⟩:=bcell q
 exact ⟨⟨by rw [c _ _ h.lt];exact h.1.1,by rw [c _ _ h.lt];exact h.1.2⟩,by rw [f _ _ h.lt];exact h.2.1,by rw [f _ _ h.lt];exact h.2.2⟩
theorem ext_data (s:ByteArray) (a b:Nat):(s.extract a b).data.toList=(s.data.toList.drop a).take (b - a):=by
 rw [ByteArray.data_extract,Array.toList_extract,List.extract_eq_take_drop]
theorem ext_len (s:ByteArray):s.data.toList.length=s.size:=rfl
set_option maxRecDepth 100000 in
set_option maxHeartbeats 2000000 in
theorem parseWeek_any (s:ByteArray) (w:World) (hP:Pow w) (hE:ErS w) (hW:WdW w) (hs:s.size≤2000000) :
 Calls Tryz.prog 239 #[.string s] w fun e w'=>∃ v,e=.returned v∧nthA (wr s.data.toList) v∧Below w.heap.size w w':=by
 have B0:Below w.heap.size w (w.alloc (.cells #[.int .i64 0,.int .i64 0] 192)):=(Below.refl _ _).alloc (Nat.le_refl _) _
 have HB:=Lib.hid B0
 have HP:=Lib.hid (hP.below B0)
 have HE:=Lib.hid (hE.below B0)
 have HW:=Lib.hid (hW.below B0)
 have R0:=Res2.new w 192
 clear B0 hP hE hW
 have LN:s.data.toList.length=s.size:=rfl
 by_cases h2:s.size<2
 ·have h2':(s.size:Int)<2:=by omega
  have N1:Hid (wr s.data.toList=none):=Lib.hid (by unfold wr;rw [if_pos (by rw [LN];exact h2)])
  clear R0
  go_enter Tryz.func239,Tryz.ntmps239
  go_wp2
  refine bodyPost_ret (v:=.tuple #[.agg #[.int .i64 0,.int .i64 0],.bool false]) (by simp [results,Tryz.results239,go_sem]) rfl ⟨_,rfl,Or.inl ⟨N1.out,_,_,rfl⟩,HB.out⟩
 ·have h2':(2:Int)≤s.size:=by omega
  have DK:Hid ((s.extract (s.size - 2) s.size).data.toList=s.data.toList.drop (s.data.toList.length - 2)):=Lib.hid (by rw [ext_data,LN,List.take_of_length_le (by rw [List.length_drop,LN];omega)])
  have TK:Hid ((s.extract 0 (s.size - 2)).data.toList=s.data.toList.take (s.data.toList.length - 2)):=Lib.hid (by rw [ext_data,LN];simp)
  obtain ⟨k,hk⟩:∃ k,k=dk (s.data.toList.drop (s.data.toList.length - 2)):=⟨_,rfl⟩
  have HK:=Lib.hid hk
  clear hk R0
  have KW:=Lib.hid (parseWeekday_any (s.extract (s.size - 2) s.size) _ HW.out)
  rw [DK.out,← HK.out] at KW
  by_cases h0:k=0
  ·have N1:Hid (wr s.data.toList=none):=Lib.hid (by unfold wr;rw [if_neg (by rw [LN];exact h2),if_pos (by rw [← HK.out];exact h0)])
   rw [posA_none h0] at KW
   clear h0
   go_enter Tryz.func239,Tryz.ntmps239
   go_wp2_with fail
   refine KW.out.mono ?_
   rintro e w1 ⟨rfl,hw⟩
   subst hw
   go_wp2
   refine bodyPost_ret (v:=.tuple #[.agg #[.int .i64 0,.int .i64 0],.bool false]) (by simp [results,Tryz.results239,go_sem]) rfl ⟨_,rfl,Or.inl ⟨N1.out,_,_,rfl⟩,?_⟩
   repeat (first | exact HB.out | exact (Below.refl _ _).alloc (Nat.le_refl _) _ | refine Below.setCell ?_ (by first | omega | (simp <;> omega)) _)
  ·rw [posA_some rfl h0] at KW
   by_cases h3:s.size=2
   ·have h3':True:=trivial
    have N1:Hid (wr s.data.toList=some (0,k)):=Lib.hid (by unfold wr;rw [if_neg (by rw [LN];exact h2),if_neg (by rw [← HK.out];exact h0),if_pos (by rw [LN];exact h3),← HK.out])
    have H3:=Lib.hid h3
    clear h0 h3 h3'
    go_enter Tryz.func239,Tryz.ntmps239
    go_wp2_with fail
    refine KW.out.mono ?_
    rintro e w1 ⟨rfl,hw⟩
    subst hw
    have h4:(s.size:Int) - 2=0:=by have:=H3.out;omega
    go_wp2
    refine bodyPost_ret (v:=.tuple #[.agg #[.int .i64 0,.int .i64 k],.bool true]) (by simp [results,Tryz.results239,go_sem]) rfl ⟨_,rfl,Or.inr ⟨_,N1.out,rfl⟩,?_⟩
    repeat (first | exact HB.out | exact (Below.refl _ _).alloc (Nat.le_refl _) _ | refine Below.setCell ?_ (by first | omega | (simp <;> omega)) _)
   ·have h3':((s.size:Int) - 2 == 0)=false:=by rw [beq_eq_false_iff_ne];omega
    have KN:=Lib.hid (parseNumber_any (s.extract 0 (s.size - 2)) _ HP.out HE.out (by rw [← ext_len];rw [TK.out,List.length_take,LN];omega))
    rw [TK.out] at KN
    have HR:=Lib.hid (Res2.new w 192)
    rcases hn:nr 4 (s.data.toList.take (s.data.toList.length - 2)) with _ | n
    ·have N1:Hid (wr s.data.toList=none):=Lib.hid (by unfold wr;rw [if_neg (by rw [LN];exact h2),if_neg (by rw [← HK.out];exact h0),if_neg (by rw [LN];exact h3),hn])
     rw [hn,numA_none rfl] at KN
     clear h0 hn
     go_enter Tryz.func239,Tryz.ntmps239
     go_wp2_with fail
     refine KW.out.mono ?_
     rintro e w1 ⟨rfl,hw⟩
     subst hw
     go_wp2_with fail
     refine KN.out.mono ?_
     rintro e w1 ⟨rfl,hb⟩
     have hB1:=HB.out.trans (hb.mono HB.out.size)
     obtain ⟨⟨c1,c2⟩,f1,f2⟩:=HR.out.on hb
     clear hb HR HB HP HE HW KN KW
     go_wp2
     refine bodyPost_ret (v:=.tuple #[.agg #[.int .i64 0,.int .i64 k],.bool false]) (by simp [results,Tryz.results239,go_sem,c1,c2]) rfl ⟨_,rfl,Or.inl ⟨N1.out,_,_,rfl⟩,?_⟩
     repeat (first | exact hB1 | refine Below.setCell ?_ (by first | omega | (simp <;> omega)) _)
    ·rw [hn,numA_some rfl] at KN
     by_cases hz:n=0
     ·have N1:Hid (wr s.data.toList=none):=Lib.hid (by unfold wr;rw [if_neg (by rw [LN];exact h2),if_neg (by rw [← HK.out];exact h0),if_neg (by rw [LN];exact h3),hn];show (if n=0 then none else _)=_;rw [if_pos hz])
      subst hz
      clear h0 hn
      go_enter Tryz.func239,Tryz.ntmps239
      go_wp2_with fail
      refine KW.out.mono ?_
      rintro e w1 ⟨rfl,hw⟩
      subst hw
      go_wp2_with fail
      refine KN.out.mono ?_
      rintro e w1 ⟨rfl,hb⟩
      have hB1:=HB.out.trans (hb.mono HB.out.size)
      obtain ⟨⟨c1,c2⟩,f1,f2⟩:=HR.out.on hb
      clear hb HR HB HP HE HW KN KW
      go_wp2
      refine bodyPost_ret (v:=.tuple #[.agg #[.int .i64 0,.int .i64 k],.bool false]) (by simp [results,Tryz.results239,go_sem,c1,c2]) rfl ⟨_,rfl,Or.inl ⟨N1.out,_,_,rfl⟩,?_⟩
      repeat (first | exact hB1 | refine Below.setCell ?_ (by first | omega | (simp <;> omega)) _)
     ·have N1:Hid (wr s.data.toList=some (n,k)):=Lib.hid (by unfold wr;rw [if_neg (by rw [LN];exact h2),if_neg (by rw [← HK.out];exact h0),if_neg (by rw [LN];exact h3),hn];show (if n=0 then none else _)=_;rw [if_neg hz,← HK.out])
      have hz':(n != 0)=true:=by simp [hz]
      clear h0 hn hz
      go_enter Tryz.func239,Tryz.ntmps239
      go_wp2_with fail
      refine KW.out.mono ?_
      rintro e w1 ⟨rfl,hw⟩
      subst hw
      go_wp2_with fail
      refine KN.out.mono ?_
      rintro e w1 ⟨rfl,hb⟩
      have hB1:=HB.out.trans (hb.mono HB.out.size)
      obtain ⟨⟨c1,c2⟩,f1,f2⟩:=HR.out.on hb
      clear hb HR HB HP HE HW KN KW
      go_wp2
      refine bodyPost_ret (v:=.tuple #[.agg #[.int .i64 n,.int .i64 k],.bool true]) (by simp [results,Tryz.results239,go_sem,c1,c2]) rfl ⟨_,rfl,Or.inr ⟨_,N1.out,rfl⟩,?_⟩
      repeat (first | exact hB1 | refine Below.setCell ?_ (by first | omega | (simp <;> omega)) _)
end Go.Proofs.YtcadomjkjoiakaaGreatDoor
namespace Go.Proofs.YtcadomjkjoiakaaGreatDoor
open Go.RowKit Cal Txt
def Far (b:Nat) (v:Value):Prop:=∀ a k c,v=.slice (some a) k c→b<a.block
theorem Far.none (b n c:Nat):Far b (.slice none n c):=fun a k c' h=>by cases h
theorem Far.new {b n:Nat} {v:Value} (h:NewB n v) (hb:b<n):Far b v:=fun a k c e=>by have:=h a k c e;omega
theorem sc_other (W:World) {b g o i:Nat} (x:Value) (h:g≠b∨i≠o):(W.setCell ⟨b,o,none⟩ x).cell? ⟨g,i,none⟩=W.cell? ⟨g,i,none⟩:=by
 apply World.cell?_setCell_other
 intro q
 injection q with q1 q2 _
 rcases h with h | h
 ·exact h q1.symm
 ·exact h q2.symm
theorem sc_same {W:World} {b o:Nat} {u:Value} (x:Value) (h:W.cell? ⟨b,o,none⟩=some u):(W.setCell ⟨b,o,none⟩ x).cell? ⟨b,o,none⟩=some x:=by
 apply World.cell?_setCell_same
 exact h
theorem Ints.set {W:World} {v:Value} {l:List Int} (h:Ints W v l) {b:Nat} (hf:Far b v) (o:Nat) (x:Value):Ints (W.setCell ⟨b,o,none⟩ x) v l:=by
 obtain ⟨a,cap,e,hc⟩:=h
 refine ⟨a,cap,e,hc.imp id ?_⟩
 rintro ⟨g,off,ea,hc⟩
 refine ⟨g,off,ea,fun i hi=>?_⟩
 rw [sc_other W x (Or.inl (Nat.ne_of_gt (hf ⟨g,off,none⟩ _ _ (by rw [e,ea]))))]
 exact hc i hi
theorem Nths.set {W:World} {v:Value} {l:List (Int × Int)} (h:Nths W v l) {b:Nat} (hf:Far b v) (o:Nat) (x:Value):Nths (W.setCell ⟨b,o,none⟩ x) v l:=by
 obtain ⟨a,cap,e,hc⟩:=h
 refine ⟨a,cap,e,hc.imp id ?_⟩
 rintro ⟨g,off,ea,hc⟩
 refine ⟨g,off,ea,fun i hi=>?_⟩
 have hne:g≠b:=Nat.ne_of_gt (hf ⟨g,off,none⟩ _ _ (by rw [e,ea]))
 rw [sc_other W x (Or.inl hne),sc_other W x (Or.inl hne)]
 exact hc i hi
theorem Ints.keep {W W':World} {v:Value} {l:List Int} (h:Ints W v l) {b:Nat} (hf:Far b v) (q:∀ g o,b<g→W'.cell? ⟨g,o,none⟩=W.cell? ⟨g,o,none⟩):Ints W' v l:=by
 obtain ⟨a,cap,e,hc⟩:=h
 refine ⟨a,cap,e,hc.imp id ?_⟩
 rintro ⟨g,off,ea,hc⟩
 exact ⟨g,off,ea,fun i hi=>by rw [q _ _ (hf ⟨g,off,none⟩ _ _ (by rw [e,ea]))];exact hc i hi⟩
theorem Nths.keep {W W':World} {v:Value} {l:List (Int × Int)} (h:Nths W v l) {b:Nat} (hf:Far b v) (q:∀ g o,b<g→W'.cell? ⟨g,o,none⟩=W.cell? ⟨g,o,none⟩):Nths W' v l:=by
 obtain ⟨a,cap,e,hc⟩:=h
 refine ⟨a,cap,e,hc.imp id ?_⟩
 rintro ⟨g,off,ea,hc⟩
 have hg:=hf ⟨g,off,none⟩ _ _ (by rw [e,ea])
 exact ⟨g,off,ea,fun i hi=>by rw [q _ _ hg,q _ _ hg];exact hc i hi⟩
theorem wpList_store_keep {P:Program} {ops:Array Oper} {rest:List Oper} {op:Oper} {a:Act} {w:World} {Q:Exit→Act→World→Prop} (hgd:op.guard=none) (ty:TypeId) (x y:Operand) (ho:op.op=.store ty x y)
 (b:Nat) (cells:Array Value) (hx:a.eval x=.pointer (some ⟨b,0,none⟩)) (hy:a.eval y=.agg cells) (ht:w.there b 0 cells.size) (hi:(P.info? ty).map (·.size)=some cells.size) (h1:cells.all (·.oneCell')=true)
 {B:Nat} {w0:World} (hB:Below B w0 w) (hb:B≤b) (h:∀ W4:World,W4.rangeAt b 0 cells.toList→Below B w0 W4→(∀ g o,b<g→W4.cell? ⟨g,o,none⟩=w.cell? ⟨g,o,none⟩)→wpList P ops Q rest (a.put op.dst undef) W4):wpList P ops Q (op :: rest) a w:=
 wpList_store_mid hgd ty x y ho b 0 cells hx hy ht hi h1 (h _ (World.rangeAt_setCells_same w b 0 cells.toList (by simpa using ht)) (below_setCells b cells.toList 0 w hB hb)
  (fun g o hg=>World.cell?_setCells_out b cells.toList 0 w ⟨g,o,none⟩ (fun e _=>absurd e (Nat.ne_of_gt hg))))
def BoxR (W:World) (b:Nat) (r:Rl):Prop:=
 ∃ vm vd vw vp,RBox W b r.freq r.every r.count r.till vm vd vw vp∧(∀ o,W.frozen? ⟨b,o,none⟩=false)∧(Ints W vm r.months∧Far b vm)∧(Ints W vd r.days∧Far b vd)∧(Nths W vw r.weeks∧Far b vw)∧(Ints W vp r.pick∧Far b vp)
theorem BoxR.lt {W:World} {b:Nat} {r:Rl} (h:BoxR W b r):b<W.heap.size:=by
 obtain ⟨_,_,_,_,hR,_⟩:=h
 exact hR.lt
theorem BoxR.on {W W':World} {b:Nat} {r:Rl} (h:BoxR W b r) (q:Below W.heap.size W W'):BoxR W' b r:=by
 have hl:=h.lt
 obtain ⟨vm,vd,vw,vp,hR,hf,⟨a1,a2⟩,⟨b1,b2⟩,⟨c1,c2⟩,d1,d2⟩:=h
 exact ⟨vm,vd,vw,vp,hR.on q,fun o=>by rw [(bcell q).2 _ _ hl];exact hf o,⟨a1.on q,a2⟩,⟨b1.on q,b2⟩,⟨c1.on q,c2⟩,d1.on q,d2⟩
def PartA (w:World) (b:Nat) (o:Option Rl) (e:Ending) (w':World):Prop:=
 Below b w w'∧((o=none∧e=.returned (.bool false))∨∃ r,o=some r∧e=.returned (.bool true)∧BoxR w' b r)
theorem RBox.set1 {W:World} {b:Nat} {f e c u:Int} {vm vd vw vp:Value} (h:RBox W b f e c u vm vd vw vp) (n:Int):RBox (W.setCell ⟨b,1,none⟩ (.int .i64 n)) b f n c u vm vd vw vp:=by
 obtain ⟨h0,h1,h2,h3,h4,h5,h6,h7⟩:=h
 exact ⟨(sc_other W _ (Or.inr (by decide))).trans h0,sc_same _ h1,(sc_other W _ (Or.inr (by decide))).trans h2,(sc_other W _ (Or.inr (by decide))).trans h3,(sc_other W _ (Or.inr (by decide))).trans h4,(sc_other W _ (Or.inr (by decide))).trans h5,(sc_other W _ (Or.inr (by decide))).trans h6,(sc_other W _ (Or.inr (by decide))).trans h7⟩
theorem RBox.set2 {W:World} {b:Nat} {f e c u:Int} {vm vd vw vp:Value} (h:RBox W b f e c u vm vd vw vp) (n:Int):RBox (W.setCell ⟨b,2,none⟩ (.int .i64 n)) b f e n u vm vd vw vp:=by
 obtain ⟨h0,h1,h2,h3,h4,h5,h6,h7⟩:=h
 exact ⟨(sc_other W _ (Or.inr (by decide))).trans h0,(sc_other W _ (Or.inr (by decide))).trans h1,sc_same _ h2,(sc_other W _ (Or.inr (by decide))).trans h3,(sc_other W _ (Or.inr (by decide))).trans h4,(sc_other W _ (Or.inr (by decide))).trans h5,(sc_other W _ (Or.inr (by decide))).trans h6,(sc_other W _ (Or.inr (by decide))).trans h7⟩
theorem RBox.set3 {W:World} {b:Nat} {f e c u:Int} {vm vd vw vp:Value} (h:RBox W b f e c u vm vd vw vp) (n:Int):RBox (W.setCell ⟨b,3,none⟩ (.int .i64 n)) b f e c n vm vd vw vp:=by
 obtain ⟨h0,h1,h2,h3,h4,h5,h6,h7⟩:=h
 exact ⟨(sc_other W _ (Or.inr (by decide))).trans h0,(sc_other W _ (Or.inr (by decide))).trans h1,(sc_other W _ (Or.inr (by decide))).trans h2,sc_same _ h3,(sc_other W _ (Or.inr (by decide))).trans h4,(sc_other W _ (Or.inr (by decide))).trans h5,(sc_other W _ (Or.inr (by decide))).trans h6,(sc_other W _ (Or.inr (by decide))).trans h7⟩
theorem RBox.set4 {W:World} {b:Nat} {f e c u:Int} {vm vd vw vp:Value} (h:RBox W b f e c u vm vd vw vp) (v:Value):RBox (W.setCell ⟨b,4,none⟩ (v)) b f e c u v vd vw vp:=by
 obtain ⟨h0,h1,h2,h3,h4,h5,h6,h7⟩:=h
 exact ⟨(sc_other W _ (Or.inr (by decide))).trans h0,(sc_other W _ (Or.inr (by decide))).trans h1,(sc_other W _ (Or.inr (by decide))).trans h2,(sc_other W _ (Or.inr (by decide))).trans h3,sc_same _ h4,(sc_other W _ (Or.inr (by decide))).trans h5,(sc_other W _ (Or.inr (by decide))).trans h6,(sc_other W _ (Or.inr (by decide))).trans h7⟩
theorem RBox.set5 {W:World} {b:Nat} {f e c u:Int} {vm vd vw vp:Value} (h:RBox W b f e c u vm vd vw vp) (v:Value):RBox (W.setCell ⟨b,5,none⟩ (v)) b f e c u vm v vw vp:=by
 obtain ⟨h0,h1,h2,h3,h4,h5,h6,h7⟩:=h
 exact ⟨(sc_other W _ (Or.inr (by decide))).trans h0,(sc_other W _ (Or.inr (by decide))).trans h1,(sc_other W _ (Or.inr (by decide))).trans h2,(sc_other W _ (Or.inr (by decide))).trans h3,(sc_other W _ (Or.inr (by decide))).trans h4,sc_same _ h5,(sc_other W _ (Or.inr (by decide))).trans h6,(sc_other W _ (Or.inr (by decide))).trans h7⟩
theorem RBox.set6 {W:World} {b:Nat} {f e c u:Int} {vm vd vw vp:Value} (h:RBox W b f e c u vm vd vw vp) (v:Value):RBox (W.setCell ⟨b,6,none⟩ (v)) b f e c u vm vd v vp:=by
 obtain ⟨h0,h1,h2,h3,h4,h5,h6,h7⟩:=h
 exact ⟨(sc_other W _ (Or.inr (by decide))).trans h0,(sc_other W _ (Or.inr (by decide))).trans h1,(sc_other W _ (Or.inr (by decide))).trans h2,(sc_other W _ (Or.inr (by decide))).trans h3,(sc_other W _ (Or.inr (by decide))).trans h4,(sc_other W _ (Or.inr (by decide))).trans h5,sc_same _ h6,(sc_other W _ (Or.inr (by decide))).trans h7⟩
theorem RBox.set7 {W:World} {b:Nat} {f e c u:Int} {vm vd vw vp:Value} (h:RBox W b f e c u vm vd vw vp) (v:Value):RBox (W.setCell ⟨b,7,none⟩ (v)) b f e c u vm vd vw v:=by
 obtain ⟨h0,h1,h2,h3,h4,h5,h6,h7⟩:=h
 exact ⟨(sc_other W _ (Or.inr (by decide))).trans h0,(sc_other W _ (Or.inr (by decide))).trans h1,(sc_other W _ (Or.inr (by decide))).trans h2,(sc_other W _ (Or.inr (by decide))).trans h3,(sc_other W _ (Or.inr (by decide))).trans h4,(sc_other W _ (Or.inr (by decide))).trans h5,(sc_other W _ (Or.inr (by decide))).trans h6,sc_same _ h7⟩
set_option maxRecDepth 100000 in
set_option maxHeartbeats 2000000 in
theorem part_0 (s:ByteArray) (r:Rl) (b:Nat) (w:World) (h:BoxR w b r) (KN:Hid (Calls Tryz.prog 235 #[.string s] w fun e w'=>e=.returned (numA (nr 4 s.data.toList))∧Below w.heap.size w w')) :
 Calls Tryz.prog 216 #[.pointer (some ⟨b,0,none⟩),.int .i64 0,.string s] w (PartA w b (ap 0 s.data.toList r)):=by
 obtain ⟨vm,vd,vw,vp,hR,hf,⟨m1,m2⟩,⟨d1,d2⟩,⟨k1,k2⟩,p1,p2⟩:=h
 have HR:=Lib.hid hR
 have HF:=Lib.hid hf
 have hl:=hR.lt
 have BX:=Lib.hid (And.intro (And.intro m1 m2) (And.intro (And.intro d1 d2) (And.intro (And.intro k1 k2) (And.intro p1 p2))))
 clear hR hf m1 m2 d1 d2 k1 k2 p1 p2
 rcases hn:nr 4 s.data.toList with _ | n
 ·have N1:Hid (ap 0 s.data.toList r=none):=Lib.hid (by simp [ap,hn])
  rw [hn,numA_none rfl] at KN
  clear hn
  go_enter Tryz.func216,Tryz.ntmps216
  go_wp2_with fail
  refine KN.out.mono ?_
  rintro e w1 ⟨rfl,hb⟩
  have R1:=HR.out.on hb
  have F1:=(bcell hb).2 b 1 hl
  rw [HF.out] at F1
  obtain ⟨q0,q1,q2,q3,q4,q5,q6,q7⟩:=id R1
  have hl1:=R1.lt
  have hB:Below b w w1:=hb.mono (by omega)
  go_wp2
  go_ret
  exact ⟨hB.setCell (Nat.le_refl _) _,Or.inl ⟨N1.out,rfl⟩⟩
 ·rw [hn,numA_some rfl] at KN
  by_cases hz:n=1
  ·have N1:Hid (ap 0 s.data.toList r=none):=Lib.hid (by simp [ap,hn,hz])
   subst hz
   clear hn
   go_enter Tryz.func216,Tryz.ntmps216
   go_wp2_with fail
   refine KN.out.mono ?_
   rintro e w1 ⟨rfl,hb⟩
   have R1:=HR.out.on hb
   have F1:=(bcell hb).2 b 1 hl
   rw [HF.out] at F1
   obtain ⟨q0,q1,q2,q3,q4,q5,q6,q7⟩:=id R1
   have hl1:=R1.lt
   have hB:Below b w w1:=hb.mono (by omega)
   go_wp2
   go_ret
   exact ⟨hB.setCell (Nat.le_refl _) _,Or.inl ⟨N1.out,rfl⟩⟩
  ·have N1:Hid (ap 0 s.data.toList r=some { r with every:=n }):=Lib.hid (by simp [ap,hn,hz])
   have hz':(n != 1)=true:=by simp [hz]
   clear hn hz
   go_enter Tryz.func216,Tryz.ntmps216
   go_wp2_with fail
   refine KN.out.mono ?_
   rintro e w1 ⟨rfl,hb⟩
   have R1:=HR.out.on hb
   have F1:=(bcell hb).2 b 1 hl
   rw [HF.out] at F1
   obtain ⟨q0,q1,q2,q3,q4,q5,q6,q7⟩:=id R1
   have hl1:=R1.lt
   have hB:Below b w w1:=hb.mono (by omega)
   have BN:Hid (BoxR (w1.setCell ⟨b,1,none⟩ (.int .i64 n)) b { r with every:=n }):=Lib.hid ⟨_,_,_,_,R1.set1 _,fun o=>by rw [World.frozen?_setCell,(bcell hb).2 b o hl];exact HF.out o,⟨(BX.out.1.1.on hb).set BX.out.1.2 1 _,BX.out.1.2⟩,⟨(BX.out.2.1.1.on hb).set BX.out.2.1.2 1 _,BX.out.2.1.2⟩,⟨(BX.out.2.2.1.1.on hb).set BX.out.2.2.1.2 1 _,BX.out.2.2.1.2⟩,⟨(BX.out.2.2.2.1.on hb).set BX.out.2.2.2.2 1 _,BX.out.2.2.2.2⟩⟩
   go_wp2
   go_ret
   exact ⟨hB.setCell (Nat.le_refl _) _,Or.inr ⟨_,N1.out,rfl,BN.out⟩⟩
set_option maxRecDepth 100000 in
set_option maxHeartbeats 2000000 in
theorem part_1 (s:ByteArray) (r:Rl) (b:Nat) (w:World) (h:BoxR w b r) (KN:Hid (Calls Tryz.prog 235 #[.string s] w fun e w'=>e=.returned (numA (nr 4 s.data.toList))∧Below w.heap.size w w')) :
 Calls Tryz.prog 216 #[.pointer (some ⟨b,0,none⟩),.int .i64 1,.string s] w (PartA w b (ap 1 s.data.toList r)):=by
 obtain ⟨vm,vd,vw,vp,hR,hf,⟨m1,m2⟩,⟨d1,d2⟩,⟨k1,k2⟩,p1,p2⟩:=h
 have HR:=Lib.hid hR
 have HF:=Lib.hid hf
 have hl:=hR.lt
 have BX:=Lib.hid (And.intro (And.intro m1 m2) (And.intro (And.intro d1 d2) (And.intro (And.intro k1 k2) (And.intro p1 p2))))
 clear hR hf m1 m2 d1 d2 k1 k2 p1 p2
 rcases hn:nr 4 s.data.toList with _ | n
 ·have N1:Hid (ap 1 s.data.toList r=none):=Lib.hid (by simp [ap,hn])
  rw [hn,numA_none rfl] at KN
  clear hn
  go_enter Tryz.func216,Tryz.ntmps216
  go_wp2_with fail
  refine KN.out.mono ?_
  rintro e w1 ⟨rfl,hb⟩
  have R1:=HR.out.on hb
  have F1:=(bcell hb).2 b 2 hl
  rw [HF.out] at F1
  obtain ⟨q0,q1,q2,q3,q4,q5,q6,q7⟩:=id R1
  have hl1:=R1.lt
  have hB:Below b w w1:=hb.mono (by omega)
  go_wp2
  go_ret
  exact ⟨hB.setCell (Nat.le_refl _) _,Or.inl ⟨N1.out,rfl⟩⟩
 ·rw [hn,numA_some rfl] at KN
  by_cases hz:n=0
  ·have N1:Hid (ap 1 s.data.toList r=none):=Lib.hid (by simp [ap,hn,hz])
   subst hz
   clear hn
   go_enter Tryz.func216,Tryz.ntmps216
   go_wp2_with fail
   refine KN.out.mono ?_
   rintro e w1 ⟨rfl,hb⟩
   have R1:=HR.out.on hb
   have F1:=(bcell hb).2 b 2 hl
   rw [HF.out] at F1
   obtain ⟨q0,q1,q2,q3,q4,q5,q6,q7⟩:=id R1
   have hl1:=R1.lt
   have hB:Below b w w1:=hb.mono (by omega)
   go_wp2
   go_ret
   exact ⟨hB.setCell (Nat.le_refl _) _,Or.inl ⟨N1.out,rfl⟩⟩
  ·have N1:Hid (ap 1 s.data.toList r=some { r with count:=n }):=Lib.hid (by simp [ap,hn,hz])
   have hz':(n != 0)=true:=by simp [hz]
   clear hn hz
   go_enter Tryz.func216,Tryz.ntmps216
   go_wp2_with fail
   refine KN.out.mono ?_
   rintro e w1 ⟨rfl,hb⟩
   have R1:=HR.out.on hb
   have F1:=(bcell hb).2 b 2 hl
   rw [HF.out] at F1
   obtain ⟨q0,q1,q2,q3,q4,q5,q6,q7⟩:=id R1
   have hl1:=R1.lt
   have hB:Below b w w1:=hb.mono (by omega)
   have BN:Hid (BoxR (w1.setCell ⟨b,2,none⟩ (.int .i64 n)) b { r with count:=n }):=Lib.hid ⟨_,_,_,_,R1.set2 _,fun o=>by rw [World.frozen?_setCell,(bcell hb).2 b o hl];exact HF.out o,⟨(BX.out.1.1.on hb).set BX.out.1.2 2 _,BX.out.1.2⟩,⟨(BX.out.2.1.1.on hb).set BX.out.2.1.2 2 _,BX.out.2.1.2⟩,⟨(BX.out.2.2.1.1.on hb).set BX.out.2.2.1.2 2 _,BX.out.2.2.1.2⟩,⟨(BX.out.2.2.2.1.on hb).set BX.out.2.2.2.2 2 _,BX.out.2.2.2.2⟩⟩
   go_wp2
   go_ret
   exact ⟨hB.setCell (Nat.le_refl _) _,Or.inr ⟨_,N1.out,rfl,BN.out⟩⟩
set_option maxRecDepth 100000 in
set_option maxHeartbeats 2000000 in
theorem part_2 (s:ByteArray) (r:Rl) (b:Nat) (w:World) (h:BoxR w b r) (KN:Hid (Calls Tryz.prog 236 #[.string s] w fun e w'=>e=.returned (numA (dr s.data.toList))∧Below w.heap.size w w')) :
 Calls Tryz.prog 216 #[.pointer (some ⟨b,0,none⟩),.int .i64 2,.string s] w (PartA w b (ap 2 s.data.toList r)):=by
 obtain ⟨vm,vd,vw,vp,hR,hf,⟨m1,m2⟩,⟨d1,d2⟩,⟨k1,k2⟩,p1,p2⟩:=h
 have HR:=Lib.hid hR
 have HF:=Lib.hid hf
 have hl:=hR.lt
 have BX:=Lib.hid (And.intro (And.intro m1 m2) (And.intro (And.intro d1 d2) (And.intro (And.intro k1 k2) (And.intro p1 p2))))
 clear hR hf m1 m2 d1 d2 k1 k2 p1 p2
 rcases hn:dr s.data.toList with _ | n
 ·have N1:Hid (ap 2 s.data.toList r=none):=Lib.hid (by simp [ap,hn])
  rw [hn,numA_none rfl] at KN
  clear hn
  go_enter Tryz.func216,Tryz.ntmps216
  go_wp2_with fail
  refine KN.out.mono ?_
  rintro e w1 ⟨rfl,hb⟩
  have R1:=HR.out.on hb
  have F1:=(bcell hb).2 b 3 hl
  rw [HF.out] at F1
  obtain ⟨q0,q1,q2,q3,q4,q5,q6,q7⟩:=id R1
  have hl1:=R1.lt
  have hB:Below b w w1:=hb.mono (by omega)
  go_wp2
  go_ret
  exact ⟨hB.setCell (Nat.le_refl _) _,Or.inl ⟨N1.out,rfl⟩⟩
 ·have N1:Hid (ap 2 s.data.toList r=some { r with till:=n }):=Lib.hid (by simp [ap,hn])
  rw [hn,numA_some rfl] at KN
  clear hn
  go_enter Tryz.func216,Tryz.ntmps216
  go_wp2_with fail
  refine KN.out.mono ?_
  rintro e w1 ⟨rfl,hb⟩
  have R1:=HR.out.on hb
  have F1:=(bcell hb).2 b 3 hl
  rw [HF.out] at F1
  obtain ⟨q0,q1,q2,q3,q4,q5,q6,q7⟩:=id R1
  have hl1:=R1.lt
  have hB:Below b w w1:=hb.mono (by omega)
  have BN:Hid (BoxR (w1.setCell ⟨b,3,none⟩ (.int .i64 n)) b { r with till:=n }):=Lib.hid ⟨_,_,_,_,R1.set3 _,fun o=>by rw [World.frozen?_setCell,(bcell hb).2 b o hl];exact HF.out o,⟨(BX.out.1.1.on hb).set BX.out.1.2 3 _,BX.out.1.2⟩,⟨(BX.out.2.1.1.on hb).set BX.out.2.1.2 3 _,BX.out.2.1.2⟩,⟨(BX.out.2.2.1.1.on hb).set BX.out.2.2.1.2 3 _,BX.out.2.2.1.2⟩,⟨(BX.out.2.2.2.1.on hb).set BX.out.2.2.2.2 3 _,BX.out.2.2.2.2⟩⟩
  go_wp2
  go_ret
  exact ⟨hB.setCell (Nat.le_refl _) _,Or.inr ⟨_,N1.out,rfl,BN.out⟩⟩
set_option maxRecDepth 100000 in
set_option maxHeartbeats 2000000 in
theorem part_3 (s:ByteArray) (r:Rl) (b:Nat) (w:World) (h:BoxR w b r) (KN:Hid (Calls Tryz.prog 237 #[.string s,.func (.func 235) #[] #[]] w (ListA Ints w (lr (nr 4) s.data.toList)))) :
 Calls Tryz.prog 216 #[.pointer (some ⟨b,0,none⟩),.int .i64 3,.string s] w (PartA w b (ap 3 s.data.toList r)):=by
 obtain ⟨vm,vd,vw,vp,hR,hf,⟨m1,m2⟩,⟨d1,d2⟩,⟨k1,k2⟩,p1,p2⟩:=h
 have HR:=Lib.hid hR
 have HF:=Lib.hid hf
 have hl:=hR.lt
 have BX:=Lib.hid (And.intro (And.intro m1 m2) (And.intro (And.intro d1 d2) (And.intro (And.intro k1 k2) (And.intro p1 p2))))
 clear hR hf m1 m2 d1 d2 k1 k2 p1 p2
 go_enter Tryz.func216,Tryz.ntmps216
 go_wp2_with fail
 refine KN.out.mono ?_
 rintro e w1 ⟨hb,hv⟩
 have R1:=HR.out.on hb
 have F1:=(bcell hb).2 b 4 hl
 rw [HF.out] at F1
 obtain ⟨q0,q1,q2,q3,q4,q5,q6,q7⟩:=id R1
 have hl1:=R1.lt
 have hB:Below b w w1:=hb.mono (by omega)
 rcases hv with ⟨hn,rfl⟩ | ⟨xs,v,hn,rfl,RV,NV⟩
 ·have N1:Hid (ap 3 s.data.toList r=none):=Lib.hid (by simp [ap,hn])
  clear hn
  go_wp2
  go_ret
  exact ⟨hB.setCell (Nat.le_refl _) _,Or.inl ⟨N1.out,rfl⟩⟩
 ·have N1:Hid (ap 3 s.data.toList r=some { r with months:=xs }):=Lib.hid (by simp [ap,hn])
  have FV:Far b v:=Far.new NV hl
  have BN:Hid (BoxR (w1.setCell ⟨b,4,none⟩ v) b { r with months:=xs }):=Lib.hid ⟨_,_,_,_,R1.set4 _,fun o=>by rw [World.frozen?_setCell,(bcell hb).2 b o hl];exact HF.out o,⟨RV.set FV 4 _,FV⟩,⟨(BX.out.2.1.1.on hb).set BX.out.2.1.2 4 _,BX.out.2.1.2⟩,⟨(BX.out.2.2.1.1.on hb).set BX.out.2.2.1.2 4 _,BX.out.2.2.1.2⟩,⟨(BX.out.2.2.2.1.on hb).set BX.out.2.2.2.2 4 _,BX.out.2.2.2.2⟩⟩
  obtain ⟨va,vc,rfl,_⟩:=id RV
  clear hn RV NV FV
  go_wp2
  go_ret
  exact ⟨hB.setCell (Nat.le_refl _) _,Or.inr ⟨_,N1.out,rfl,BN.out⟩⟩
set_option maxRecDepth 100000 in
set_option maxHeartbeats 2000000 in
theorem part_4 (s:ByteArray) (r:Rl) (b:Nat) (w:World) (h:BoxR w b r) (KN:Hid (Calls Tryz.prog 237 #[.string s,.func (.func 235) #[] #[]] w (ListA Ints w (lr (nr 4) s.data.toList)))) :
 Calls Tryz.prog 216 #[.pointer (some ⟨b,0,none⟩),.int .i64 4,.string s] w (PartA w b (ap 4 s.data.toList r)):=by
 obtain ⟨vm,vd,vw,vp,hR,hf,⟨m1,m2⟩,⟨d1,d2⟩,⟨k1,k2⟩,p1,p2⟩:=h
 have HR:=Lib.hid hR
 have HF:=Lib.hid hf
 have hl:=hR.lt
 have BX:=Lib.hid (And.intro (And.intro m1 m2) (And.intro (And.intro d1 d2) (And.intro (And.intro k1 k2) (And.intro p1 p2))))
 clear hR hf m1 m2 d1 d2 k1 k2 p1 p2
 go_enter Tryz.func216,Tryz.ntmps216
 go_wp2_with fail
 refine KN.out.mono ?_
 rintro e w1 ⟨hb,hv⟩
 have R1:=HR.out.on hb
 have F1:=(bcell hb).2 b 5 hl
 rw [HF.out] at F1
 obtain ⟨q0,q1,q2,q3,q4,q5,q6,q7⟩:=id R1
 have hl1:=R1.lt
 have hB:Below b w w1:=hb.mono (by omega)
 rcases hv with ⟨hn,rfl⟩ | ⟨xs,v,hn,rfl,RV,NV⟩
 ·have N1:Hid (ap 4 s.data.toList r=none):=Lib.hid (by simp [ap,hn])
  clear hn
  go_wp2
  go_ret
  exact ⟨hB.setCell (Nat.le_refl _) _,Or.inl ⟨N1.out,rfl⟩⟩
 ·have N1:Hid (ap 4 s.data.toList r=some { r with days:=xs }):=Lib.hid (by simp [ap,hn])
  have FV:Far b v:=Far.new NV hl
  have BN:Hid (BoxR (w1.setCell ⟨b,5,none⟩ v) b { r with days:=xs }):=Lib.hid ⟨_,_,_,_,R1.set5 _,fun o=>by rw [World.frozen?_setCell,(bcell hb).2 b o hl];exact HF.out o,⟨(BX.out.1.1.on hb).set BX.out.1.2 5 _,BX.out.1.2⟩,⟨RV.set FV 5 _,FV⟩,⟨(BX.out.2.2.1.1.on hb).set BX.out.2.2.1.2 5 _,BX.out.2.2.1.2⟩,⟨(BX.out.2.2.2.1.on hb).set BX.out.2.2.2.2 5 _,BX.out.2.2.2.2⟩⟩
  obtain ⟨va,vc,rfl,_⟩:=id RV
  clear hn RV NV FV
  go_wp2
  go_ret
  exact ⟨hB.setCell (Nat.le_refl _) _,Or.inr ⟨_,N1.out,rfl,BN.out⟩⟩
set_option maxRecDepth 100000 in
set_option maxHeartbeats 2000000 in
theorem part_5 (s:ByteArray) (r:Rl) (b:Nat) (w:World) (h:BoxR w b r) (KN:Hid (Calls Tryz.prog 238 #[.string s,.func (.func 239) #[] #[]] w (ListA Nths w (lr wr s.data.toList)))) :
 Calls Tryz.prog 216 #[.pointer (some ⟨b,0,none⟩),.int .i64 5,.string s] w (PartA w b (ap 5 s.data.toList r)):=by
 obtain ⟨vm,vd,vw,vp,hR,hf,⟨m1,m2⟩,⟨d1,d2⟩,⟨k1,k2⟩,p1,p2⟩:=h
 have HR:=Lib.hid hR
 have HF:=Lib.hid hf
 have hl:=hR.lt
 have BX:=Lib.hid (And.intro (And.intro m1 m2) (And.intro (And.intro d1 d2) (And.intro (And.intro k1 k2) (And.intro p1 p2))))
 clear hR hf m1 m2 d1 d2 k1 k2 p1 p2
 go_enter Tryz.func216,Tryz.ntmps216
 go_wp2_with fail
 refine KN.out.mono ?_
 rintro e w1 ⟨hb,hv⟩
 have R1:=HR.out.on hb
 have F1:=(bcell hb).2 b 6 hl
 rw [HF.out] at F1
 obtain ⟨q0,q1,q2,q3,q4,q5,q6,q7⟩:=id R1
 have hl1:=R1.lt
 have hB:Below b w w1:=hb.mono (by omega)
 rcases hv with ⟨hn,rfl⟩ | ⟨xs,v,hn,rfl,RV,NV⟩
 ·have N1:Hid (ap 5 s.data.toList r=none):=Lib.hid (by simp [ap,hn])
  clear hn
  go_wp2
  go_ret
  exact ⟨hB.setCell (Nat.le_refl _) _,Or.inl ⟨N1.out,rfl⟩⟩
 ·have N1:Hid (ap 5 s.data.toList r=some { r with weeks:=xs }):=Lib.hid (by simp [ap,hn])
  have FV:Far b v:=Far.new NV hl
  have BN:Hid (BoxR (w1.setCell ⟨b,6,none⟩ v) b { r with weeks:=xs }):=Lib.hid ⟨_,_,_,_,R1.set6 _,fun o=>by rw [World.frozen?_setCell,(bcell hb).2 b o hl];exact HF.out o,⟨(BX.out.1.1.on hb).set BX.out.1.2 6 _,BX.out.1.2⟩,⟨(BX.out.2.1.1.on hb).set BX.out.2.1.2 6 _,BX.out.2.1.2⟩,⟨RV.set FV 6 _,FV⟩,⟨(BX.out.2.2.2.1.on hb).set BX.out.2.2.2.2 6 _,BX.out.2.2.2.2⟩⟩
  obtain ⟨va,vc,rfl,_⟩:=id RV
  clear hn RV NV FV
  go_wp2
  go_ret
  exact ⟨hB.setCell (Nat.le_refl _) _,Or.inr ⟨_,N1.out,rfl,BN.out⟩⟩
set_option maxRecDepth 100000 in
set_option maxHeartbeats 2000000 in
theorem part_6 (s:ByteArray) (r:Rl) (b:Nat) (w:World) (h:BoxR w b r) (KN:Hid (Calls Tryz.prog 237 #[.string s,.func (.func 235) #[] #[]] w (ListA Ints w (lr (nr 4) s.data.toList)))) :
 Calls Tryz.prog 216 #[.pointer (some ⟨b,0,none⟩),.int .i64 6,.string s] w (PartA w b (ap 6 s.data.toList r)):=by
 obtain ⟨vm,vd,vw,vp,hR,hf,⟨m1,m2⟩,⟨d1,d2⟩,⟨k1,k2⟩,p1,p2⟩:=h
 have HR:=Lib.hid hR
 have HF:=Lib.hid hf
 have hl:=hR.lt
 have BX:=Lib.hid (And.intro (And.intro m1 m2) (And.intro (And.intro d1 d2) (And.intro (And.intro k1 k2) (And.intro p1 p2))))
 clear hR hf m1 m2 d1 d2 k1 k2 p1 p2
 go_enter Tryz.func216,Tryz.ntmps216
 go_wp2_with fail
 refine KN.out.mono ?_
 rintro e w1 ⟨hb,hv⟩
 have R1:=HR.out.on hb
 have F1:=(bcell hb).2 b 7 hl
 rw [HF.out] at F1
 obtain ⟨q0,q1,q2,q3,q4,q5,q6,q7⟩:=id R1
 have hl1:=R1.lt
 have hB:Below b w w1:=hb.mono (by omega)
 rcases hv with ⟨hn,rfl⟩ | ⟨xs,v,hn,rfl,RV,NV⟩
 ·have N1:Hid (ap 6 s.data.toList r=none):=Lib.hid (by simp [ap,hn])
  clear hn
  go_wp2
  go_ret
  exact ⟨hB.setCell (Nat.le_refl _) _,Or.inl ⟨N1.out,rfl⟩⟩
 ·have N1:Hid (ap 6 s.data.toList r=some { r with pick:=xs }):=Lib.hid (by simp [ap,hn])
  have FV:Far b v:=Far.new NV hl
  have BN:Hid (BoxR (w1.setCell ⟨b,7,none⟩ v) b { r with pick:=xs }):=Lib.hid ⟨_,_,_,_,R1.set7 _,fun o=>by rw [World.frozen?_setCell,(bcell hb).2 b o hl];exact HF.out o,⟨(BX.out.1.1.on hb).set BX.out.1.2 7 _,BX.out.1.2⟩,⟨(BX.out.2.1.1.on hb).set BX.out.2.1.2 7 _,BX.out.2.1.2⟩,⟨(BX.out.2.2.1.1.on hb).set BX.out.2.2.1.2 7 _,BX.out.2.2.1.2⟩,⟨RV.set FV 7 _,FV⟩⟩
  obtain ⟨va,vc,rfl,_⟩:=id RV
  clear hn RV NV FV
  go_wp2
  go_ret
  exact ⟨hB.setCell (Nat.le_refl _) _,Or.inr ⟨_,N1.out,rfl,BN.out⟩⟩
end Go.Proofs.YtcadomjkjoiakaaGreatDoor
namespace Go.Proofs.YtcadomjkjoiakaaGreatDoor
open Go.RowKit Cal Txt
theorem idxP (k:Nat) (h:k<7) (W:World):(Instr.index 207 (.agg #[.string (tb (kw 0)),.string (tb (kw 1)),.string (tb (kw 2)),.string (tb (kw 3)),.string (tb (kw 4)),.string (tb (kw 5)),.string (tb (kw 6))]) (.int .i64 k)).run Tryz.prog W=.ok (.string (tb (kw k))) W:=by
 rcases seven h with rfl | rfl | rfl | rfl | rfl | rfl | rfl <;> kernel_rfl
def RuleFr (w:World) (n:Nat) (v:Value) (r:Rl):Prop:=
 ∃ vm vd vw vp,v=.agg #[.int .i64 r.freq,.int .i64 r.every,.int .i64 r.count,.int .i64 r.till,vm,vd,vw,vp]∧(Ints w vm r.months∧Far n vm)∧(Ints w vd r.days∧Far n vd)∧(Nths w vw r.weeks∧Far n vw)∧(Ints w vp r.pick∧Far n vp)
theorem Far.le {n m:Nat} {v:Value} (h:Far m v) (hn:n≤m):Far n v:=fun a k c e=>Nat.lt_of_le_of_lt hn (h a k c e)
def WordsA (w:World) (o:Option Rl) (e:Ending) (w':World):Prop:=
 Below w.heap.size w w'∧((o=none∧∃ r v,e=.returned (.tuple #[v,.bool false])∧RuleFr w' w.heap.size v r)∨∃ r v,o=some r∧e=.returned (.tuple #[v,.bool true])∧RuleFr w' w.heap.size v r)
def rw1 (ws:List (List UInt8)):Option Rl:=match ws with
 | []=>none
 | w :: ws=>if fk w=0 then none else rdF 7 (r0 (fk w)) ws
def WdB (W:World) (b:Nat) (ps:List ByteArray):Prop:=∀ (j:Nat) (h:j<ps.length),W.cell? ⟨b,j,none⟩=some (.string ps[j])
structure KeepP (W:World):Prop where
 pow:Pow W
 ers:ErS W
 wdw:WdW W
 tab:Tab W
 paw:PaW W
 frw:FrW W
theorem KeepP.below {W W':World} (h:KeepP W) (q:Below W.heap.size W W'):KeepP W':=⟨h.pow.below q,h.ers.below q,h.wdw.below q,h.tab.below q,h.paw.below q,h.frw.below q⟩
theorem fN:∀ args w,(callFunc 235 args).run Tryz.prog w=.ok (.enter 235 args) w:=enters_of Tryz.func235 (by kernel_rfl) rfl
theorem fWk:∀ args w,(callFunc 239 args).run Tryz.prog w=.ok (.enter 239 args) w:=enters_of Tryz.func239 (by kernel_rfl) rfl
theorem parsePart_any (k:Nat) (hk:k<7) (s:ByteArray) (r:Rl) (b:Nat) (w:World) (h:BoxR w b r) (hK:KeepP w) (hs:s.size≤2000000) :
 Calls Tryz.prog 216 #[.pointer (some ⟨b,0,none⟩),.int .i64 k,.string s] w (PartA w b (ap k s.data.toList r)):=by
 have K1:=Lib.hid (parseNumber_any s w hK.pow hK.ers hs)
 have K2:=Lib.hid (parseDay_any s w hK.tab hs)
 have K3:=Lib.hid (parseList_int _ (nr 4) fN s w hs (fun x hx W hb=>parseNumber_any x W (hK.pow.below hb) (hK.ers.below hb) (by omega)))
 have K4:=Lib.hid (parseList_nth _ wr fWk s w hs (fun x hx W hb=>parseWeek_any x W (hK.pow.below hb) (hK.ers.below hb) (hK.wdw.below hb) (by omega)))
 rcases seven hk with rfl | rfl | rfl | rfl | rfl | rfl | rfl
 ·exact part_0 s r b w h K1
 ·exact part_1 s r b w h K1
 ·exact part_2 s r b w h K2
 ·exact part_3 s r b w h K3
 ·exact part_4 s r b w h K3
 ·exact part_5 s r b w h K4
 ·exact part_6 s r b w h K3
theorem there_on {W W':World} {B b n:Nat} (h:W.there b 0 n) (q:Below B W W') (hb:b<B):W'.there b 0 n:=fun j hj=>by
 obtain ⟨h1,h2⟩:=h j hj
 rw [q.cell (p:=⟨b,0 + j,none⟩) hb,q.frozen (p:=⟨b,0 + j,none⟩) hb]
 exact ⟨h1,h2⟩
theorem there_new (W:World) (t:TypeId):(W.alloc (.cells #[.int .i64 0,.int .i64 0,.int .i64 0,.int .i64 0,.slice none 0 0,.slice none 0 0,.slice none 0 0,.slice none 0 0] t)).there W.heap.size 0 8:=fun j hj=>by
 rcases (by omega:j=0∨j=1∨j=2∨j=3∨j=4∨j=5∨j=6∨j=7) with rfl | rfl | rfl | rfl | rfl | rfl | rfl | rfl <;> simp
theorem zero_in (w:World) (n:Nat):RuleFr w n (.agg #[.int .i64 0,.int .i64 0,.int .i64 0,.int .i64 0,.slice none 0 0,.slice none 0 0,.slice none 0 0,.slice none 0 0]) ⟨0,0,0,0,[],[],[],[]⟩:=
 ⟨_,_,_,_,rfl,⟨⟨none,0,rfl,Or.inl rfl⟩,Far.none _ _ _⟩,⟨⟨none,0,rfl,Or.inl rfl⟩,Far.none _ _ _⟩,⟨⟨none,0,rfl,Or.inl rfl⟩,Far.none _ _ _⟩,⟨none,0,rfl,Or.inl rfl⟩,Far.none _ _ _⟩
theorem box_new (W:World) (f:Int) (t:TypeId):BoxR (W.alloc (.cells #[.int .i64 f,.int .i64 1,.int .i64 0,.int .i64 0,.slice none 0 0,.slice none 0 0,.slice none 0 0,.slice none 0 0] t)) W.heap.size (r0 f):=
 ⟨_,_,_,_,RBox.new W f 1 0 0 (.slice none 0 0) (.slice none 0 0) (.slice none 0 0) (.slice none 0 0) t,fun o=>by simp,⟨⟨none,0,rfl,Or.inl rfl⟩,Far.none _ _ _⟩,⟨⟨none,0,rfl,Or.inl rfl⟩,Far.none _ _ _⟩,⟨⟨none,0,rfl,Or.inl rfl⟩,Far.none _ _ _⟩,⟨none,0,rfl,Or.inl rfl⟩,Far.none _ _ _⟩
def rest (ps:List ByteArray) (d:Nat):List (List UInt8):=(ps.drop d).map (·.data.toList)
theorem rest_two {ps:List ByteArray} {d:Nat} (h:d + 1<ps.length):rest ps d=(ps[d]).data.toList :: (ps[d + 1]).data.toList :: rest ps (d + 2):=by
 unfold rest
 rw [List.drop_eq_getElem_cons (by omega),List.map_cons,List.drop_eq_getElem_cons h,List.map_cons]
theorem rest_len (ps:List ByteArray) (d:Nat):(rest ps d).length=ps.length - d:=by unfold rest;rw [List.length_map,List.length_drop]
theorem rdF_short (m:Nat) (r:Rl) (ws:List (List UInt8)) (h:ws.length<2):rdF (m + 1) r ws=rdF m r ws:=by
 match ws,h with
 | [],_=>cases m <;> simp [rdF]
 | [a],_=>cases m <;> simp [rdF]
theorem rdF_skip {m:Nat} {r:Rl} {x y:List UInt8} {ws:List (List UInt8)} (h:x≠kw (6 - m)):rdF (m + 1) r (x :: y :: ws)=rdF m r (x :: y :: ws):=by
 conv=>lhs;unfold rdF
 dsimp only
 rw [if_neg h]
theorem rdF_no {m:Nat} {r:Rl} {x y:List UInt8} {ws:List (List UInt8)} (h:x=kw (6 - m)) (ha:ap (6 - m) y r=none):rdF (m + 1) r (x :: y :: ws)=none:=by
 conv=>lhs;unfold rdF
 dsimp only
 rw [if_pos h,ha]
theorem rdF_yes {m:Nat} {r r':Rl} {x y:List UInt8} {ws:List (List UInt8)} (h:x=kw (6 - m)) (ha:ap (6 - m) y r=some r'):rdF (m + 1) r (x :: y :: ws)=rdF m r' ws:=by
 conv=>lhs;unfold rdF
 dsimp only
 rw [if_pos h,ha]
theorem rdF_end {r:Rl} {ws:List (List UInt8)}:rdF 0 r ws=if ws=[] then some r else none:=rfl
def LeftA (bw n d:Nat) (a:Option Addr):Prop:=d<n→a=some ⟨bw,d,none⟩
set_option maxRecDepth 100000 in
set_option maxHeartbeats 4000000 in
theorem parseWords_any (ps:List ByteArray) (bw:Nat) (w:World) (hp:WdB w bw ps) (hn:0<ps.length) (hl:ps.length≤2000001) (hs:∀ x∈ps,x.size≤2000000) (hK:KeepP w) :
 Calls Tryz.prog 173 #[.slice (some ⟨bw,0,none⟩) ps.length ps.length] w (WordsA w (rw1 (ps.map (·.data.toList)))):=by
 have c0:=hp 0 hn
 have hbw:bw<w.heap.size:=cell_lt c0
 obtain ⟨x0,hx0⟩:∃ x,x=ps[0]:=⟨_,rfl⟩
 rw [← hx0] at c0
 have B0:Below w.heap.size w (w.alloc (.cells #[.int .i64 0,.int .i64 0,.int .i64 0,.int .i64 0,.slice none 0 0,.slice none 0 0,.slice none 0 0,.slice none 0 0] 28)):=(Below.refl _ _).alloc (Nat.le_refl _) _
 have HB:=Lib.hid B0
 have HT:=Lib.hid (there_new w 28)
 have HK:=Lib.hid (hK.below B0)
 have HP:Hid (WdB (w.alloc (.cells #[.int .i64 0,.int .i64 0,.int .i64 0,.int .i64 0,.slice none 0 0,.slice none 0 0,.slice none 0 0,.slice none 0 0] 28)) bw ps):=Lib.hid (fun j h=>(B0.cell (p:=⟨bw,j,none⟩) hbw).trans (hp j h))
 have KF:=Lib.hid (parseFreq_any x0 _ HK.out.frw)
 have RW:Hid (rw1 (ps.map (·.data.toList))=if fk x0.data.toList=0 then none else rdF 7 (r0 (fk x0.data.toList)) ((ps.drop 1).map (·.data.toList))):=Lib.hid (by
  cases ps with
  | nil=>simp at hn
  | cons a r=>rw [hx0];rfl)
 have hK0:=hK
 have hp0:=hp
 have hs0:=hs
 clear B0 hp hK hx0 hs
 by_cases h0:fk x0.data.toList=0
 ·rw [posA_none h0] at KF
  have N1:Hid (rw1 (ps.map (·.data.toList))=none):=Lib.hid (by rw [RW.out,if_pos h0])
  clear h0
  go_enter Tryz.func173,Tryz.ntmps173
  go_wp2_with fail
  refine KF.out.mono ?_
  rintro e w1 ⟨rfl,hw⟩
  subst hw
  go_wp2
  refine bodyPost_ret (v:=.tuple #[.agg #[.int .i64 0,.int .i64 0,.int .i64 0,.int .i64 0,.slice none 0 0,.slice none 0 0,.slice none 0 0,.slice none 0 0],.bool false]) (by simp [results,Tryz.results173,go_sem]) rfl ⟨HB.out,Or.inl ⟨N1.out,_,_,rfl,zero_in _ _⟩⟩
 ·have hf:=fq_fk h0
  obtain ⟨f,hfe⟩:∃ f,f=fk x0.data.toList:=⟨_,rfl⟩
  rw [posA_some rfl h0] at KF
  rw [if_neg h0] at RW
  rw [← hfe] at KF RW hf
  clear h0 hfe
  go_enter Tryz.func173,Tryz.ntmps173
  go_wp2_with fail
  refine KF.out.mono ?_
  rintro e w1 ⟨rfl,hw⟩
  subst hw
  clear KF
  have pl1:(1:Int)≤ps.length:=by omega
  go_wp2_with fail
  go_region_held3 (fun _=>True) (trivial) (fail)
  have X1:Hid (BoxR ((w.alloc (.cells #[.int .i64 0,.int .i64 0,.int .i64 0,.int .i64 0,.slice none 0 0,.slice none 0 0,.slice none 0 0,.slice none 0 0] 28)).alloc (.cells #[.int .i64 f,.int .i64 1,.int .i64 0,.int .i64 0,.slice none 0 0,.slice none 0 0,.slice none 0 0,.slice none 0 0] 28)).drew (w.heap.size + 1) (r0 f)):=Lib.hid (by
   have:=(box_new (w.alloc (.cells #[.int .i64 0,.int .i64 0,.int .i64 0,.int .i64 0,.slice none 0 0,.slice none 0 0,.slice none 0 0,.slice none 0 0] 28)) f 28).on (Below.drew (Below.refl _ _))
   simpa using this)
  have B1:Hid (Below w.heap.size w ((w.alloc (.cells #[.int .i64 0,.int .i64 0,.int .i64 0,.int .i64 0,.slice none 0 0,.slice none 0 0,.slice none 0 0,.slice none 0 0] 28)).alloc (.cells #[.int .i64 f,.int .i64 1,.int .i64 0,.int .i64 0,.slice none 0 0,.slice none 0 0,.slice none 0 0,.slice none 0 0] 28)).drew):=Lib.hid ((HB.out.alloc HB.out.size _).drew)
  have T1:Hid (((w.alloc (.cells #[.int .i64 0,.int .i64 0,.int .i64 0,.int .i64 0,.slice none 0 0,.slice none 0 0,.slice none 0 0,.slice none 0 0] 28)).alloc (.cells #[.int .i64 f,.int .i64 1,.int .i64 0,.int .i64 0,.slice none 0 0,.slice none 0 0,.slice none 0 0,.slice none 0 0] 28)).drew.there w.heap.size 0 8):=Lib.hid (there_on HT.out (((Below.refl _ _).alloc (Nat.le_refl _) _).drew) (by simp))
  have HKW:Hid (∀ W,Below w.heap.size w W→KeepP W):=Lib.hid (fun W q=>hK0.below q)
  have HPW:Hid (∀ W,Below w.heap.size w W→WdB W bw ps):=Lib.hid (fun W q j h=>(q.cell (p:=⟨bw,j,none⟩) hbw).trans (hp0 j h))
  clear HB HT HK HP hK0 hp0 c0 pl1
  generalize hav:(if ps.length=1 then some (⟨bw,0,none⟩:Addr) else some ⟨bw,1,none⟩)=av
  have LA:LeftA bw ps.length 1 av:=fun h=>by rw [← hav,if_neg (by omega)]
  clear hav
  generalize ((w.alloc (.cells #[.int .i64 0,.int .i64 0,.int .i64 0,.int .i64 0,.slice none 0 0,.slice none 0 0,.slice none 0 0,.slice none 0 0] 28)).alloc (.cells #[.int .i64 f,.int .i64 1,.int .i64 0,.int .i64 0,.slice none 0 0,.slice none 0 0,.slice none 0 0,.slice none 0 0] 28)).drew=W1 at X1 B1 T1 ⊢
  have P7:=(HKW.out _ B1.out).paw
  have e0:=P7 0 (by decide)
  have e1:=P7 1 (by decide)
  have e2:=P7 2 (by decide)
  have e3:=P7 3 (by decide)
  have e4:=P7 4 (by decide)
  have e5:=P7 5 (by decide)
  have e6:=P7 6 (by decide)
  clear P7
  go_wp2
  clear e0 e1 e2 e3 e4 e5 e6
  go_loopw [7,25] (fun lv i wr=>∃ (k d:Nat) (a:Option Addr) (r:Rl),k≤7∧i=.int .i64 k∧d≤ps.length∧lv=.slice a (ps.length - d) (ps.length - d)∧LeftA bw ps.length d a∧BoxR wr (w.heap.size + 1) r∧Below (w.heap.size + 1) W1 wr∧rdF (7 - k) r (rest ps d)=rw1 (ps.map (·.data.toList))) (fun _ i _=>7 - (intOf i).toNat)
  case atStart=>exact ⟨0,1,av,r0 f,by omega,rfl,by omega,rfl,LA,X1.out,Below.refl _ _,RW.out.symm⟩
  case round=>
   clear X1 LA
   obtain ⟨k,d,a,r,hk,rfl,hd,rfl,hLA,hX,hB,hI⟩:=hrel
   have hBw:Below w.heap.size w wr:=B1.out.trans (hB.mono (by omega))
   have HX:=Lib.hid hX
   have HBB:=Lib.hid hB
   have HBW:=Lib.hid hBw
   have HI:=Lib.hid hI
   have HLA:=Lib.hid hLA
   clear hX hB hBw hI hLA
   by_cases hlt:k<7
   ·have ix:=idxP k hlt
    have k7:(k:Int)<7:=by omega
    have ek:7 - k=(6 - k) + 1:=by omega
    have ek2:6 - (6 - k)=k:=by omega
    have ek3:7 - (k + 1)=6 - k:=by omega
    by_cases h2:ps.length - d<2
    ·have h2':((ps.length - d:Nat):Int)<2:=by omega
     have N1:Hid (rdF (7 - (k + 1)) r (rest ps d)=rw1 (ps.map (·.data.toList))):=Lib.hid (by rw [ek3,← HI.out,ek,rdF_short _ _ _ (by rw [rest_len];exact h2)])
     clear ek ek2 ek3
     go_wp2
     go_roundw
     case rel=>exact ⟨k + 1,d,a,r,by omega,by go_num,hd,rfl,HLA.out,HX.out,HBB.out,N1.out⟩
     case measure=>simp [intOf];omega
    ·have h2':(2:Int)≤((ps.length - d:Nat):Int):=by omega
     have hdn:d + 1<ps.length:=by omega
     have ea:a=some ⟨bw,d,none⟩:=HLA.out (by omega)
     subst ea
     have WB:=HPW.out _ HBW.out
     have cx:=WB d (by omega)
     have cy:=WB (d + 1) hdn
     obtain ⟨x,hx⟩:∃ x,x=ps[d]:=⟨_,rfl⟩
     obtain ⟨y,hy⟩:∃ y,y=ps[d + 1]:=⟨_,rfl⟩
     rw [← hx] at cx
     rw [← hy] at cy
     have hys:y.size≤2000000:=by rw [hy];exact hs0 _ (List.getElem_mem hdn)
     have RT:Hid (rest ps d=x.data.toList :: y.data.toList :: rest ps (d + 2)):=Lib.hid (by rw [hx,hy];exact rest_two hdn)
     clear hx hy WB
     by_cases hw:x.data.toList=kw k
     ·have e1:(x.toList == (tb (kw k)).toList)=true:=by rw [Lib.toList_data,Lib.toList_data,tb_data,hw];simp
      have KP:=Lib.hid (parsePart_any k hlt y r (w.heap.size + 1) wr HX.out (HKW.out _ HBW.out) hys)
      have HW:=Lib.hid hw
      clear hw
      go_wp2_with fail
      refine KP.out.mono ?_
      rintro e w2 ⟨hb2,hv⟩
      have T3:=there_on T1.out (HBB.out.trans hb2) (Nat.lt_succ_self _)
      have BW:=HBW.out.trans (hb2.mono (by omega))
      have B3:=Lib.hid (HBB.out.trans hb2)
      rcases hv with ⟨ho,rfl⟩ | ⟨r',ho,rfl,hX2⟩
      ·have N1:Hid (rw1 (ps.map (·.data.toList))=none):=Lib.hid (by rw [← HI.out,ek,RT.out,rdF_no (by rw [ek2];exact HW.out) (by rw [ek2];exact ho)])
       clear ho ek ek2 ek3 hb2
       go_wp2_with (refine wpList_store_keep rfl 28 (.tmp 2) (.tmp 45) rfl w.heap.size #[.int .i64 0,.int .i64 0,.int .i64 0,.int .i64 0,.slice none 0 0,.slice none 0 0,.slice none 0 0,.slice none 0 0] rfl rfl T3 (by kernel_rfl) (by simp [Value.oneCell']) BW (Nat.le_refl _) ?_)
       intro W4 R4 B4 _
       have r0:=R4 0 _ rfl
       have r1:=R4 1 _ rfl
       have r2:=R4 2 _ rfl
       have r3:=R4 3 _ rfl
       have r4:=R4 4 _ rfl
       have r5:=R4 5 _ rfl
       have r6:=R4 6 _ rfl
       have r7:=R4 7 _ rfl
       simp only [Nat.zero_add] at r0 r1 r2 r3 r4 r5 r6 r7
       clear R4
       go_wp2
       refine bodyPost_ret (v:=.tuple #[.agg #[.int .i64 0,.int .i64 0,.int .i64 0,.int .i64 0,.slice none 0 0,.slice none 0 0,.slice none 0 0,.slice none 0 0],.bool false]) (by simp [results,Tryz.results173,go_sem,r0,r1,r2,r3,r4,r5,r6,r7]) rfl ⟨B4,Or.inl ⟨N1.out,_,_,rfl,zero_in _ _⟩⟩
      ·have N1:Hid (rdF (7 - (k + 1)) r' (rest ps (d + 2))=rw1 (ps.map (·.data.toList))):=Lib.hid (by rw [ek3,← HI.out,ek,RT.out,rdF_yes (by rw [ek2];exact HW.out) (by rw [ek2];exact ho)])
       have HX2:=Lib.hid hX2
       clear ho ek ek2 ek3 hb2 hX2 T3 BW
       go_wp2
       go_roundw
       case rel=>exact ⟨k + 1,d + 2,_,r',by omega,by go_num,by omega,by rw [show ps.length - (d + 2)=ps.length - d - 2 by omega],fun h=>by rw [if_neg (by omega)],HX2.out,B3.out,N1.out⟩
       case measure=>simp [intOf];omega
     ·have e1:(x.toList == (tb (kw k)).toList)=false:=by rw [Lib.toList_data,Lib.toList_data,tb_data];simpa using hw
      have N1:Hid (rdF (7 - (k + 1)) r (rest ps d)=rw1 (ps.map (·.data.toList))):=Lib.hid (by rw [ek3,← HI.out,ek,RT.out,rdF_skip (by rw [ek2];exact hw)])
      clear hw ek ek2 ek3
      go_wp2
      go_roundw
      case rel=>exact ⟨k + 1,d,_,r,by omega,by go_num,hd,rfl,HLA.out,HX.out,HBB.out,N1.out⟩
      case measure=>simp [intOf];omega
   ·obtain rfl:k=7:=by omega
    have hI:=HI.out
    rw [show 7 - 7=0 from rfl,rdF_end] at hI
    have T3:=there_on T1.out HBB.out (Nat.lt_succ_self _)
    obtain ⟨vm,vd,vw,vp,hR,hf,⟨m1,m2⟩,⟨d1,d2⟩,⟨k1,k2⟩,p1,p2⟩:=HX.out
    have KI:=Lib.hid (And.intro (And.intro m1 m2) (And.intro (And.intro d1 d2) (And.intro (And.intro k1 k2) (And.intro p1 p2))))
    obtain ⟨am,cm,rfl,_⟩:=id m1
    obtain ⟨ad,cd,rfl,_⟩:=id d1
    obtain ⟨aw,cw,rfl,_⟩:=id k1
    obtain ⟨ap,cp,rfl,_⟩:=id p1
    obtain ⟨q0,q1,q2,q3,q4,q5,q6,q7⟩:=hR
    have BW:=HBW.out
    clear m1 m2 d1 d2 k1 k2 p1 p2 hf HX
    have fin:∀ W4:World,Below w.heap.size w W4→(∀ g o,w.heap.size<g→W4.cell? ⟨g,o,none⟩=wr.cell? ⟨g,o,none⟩)→RuleFr W4 w.heap.size (.agg #[.int .i64 r.freq,.int .i64 r.every,.int .i64 r.count,.int .i64 r.till,.slice am r.months.length cm,.slice ad r.days.length cd,.slice aw r.weeks.length cw,.slice ap r.pick.length cp]) r:=fun W4 _ q=>by
     obtain ⟨⟨m1,m2⟩,⟨d1,d2⟩,⟨k1,k2⟩,p1,p2⟩:=KI.out
     have q':∀ g o,w.heap.size + 1<g→W4.cell? ⟨g,o,none⟩=wr.cell? ⟨g,o,none⟩:=fun g o h=>q g o (by omega)
     exact ⟨_,_,_,_,rfl,⟨m1.keep m2 q',m2.le (by omega)⟩,⟨d1.keep d2 q',d2.le (by omega)⟩,⟨k1.keep k2 q',k2.le (by omega)⟩,p1.keep p2 q',p2.le (by omega)⟩
    have FN:=Lib.hid fin
    clear fin KI
    by_cases hz:ps.length - d=0
    ·have N1:Hid (rw1 (ps.map (·.data.toList))=some r):=Lib.hid (by rw [← hI,if_pos (List.eq_nil_of_length_eq_zero (by rw [rest_len];exact hz))])
     clear hI
     go_wp2_with (refine wpList_store_keep rfl 28 (.tmp 2) (.tmp 49) rfl w.heap.size _ rfl rfl T3 (by kernel_rfl) (by simp [Value.oneCell']) BW (Nat.le_refl _) ?_)
     intro W4 R4 B4 Q4
     have RI:=Lib.hid (FN.out W4 B4 Q4)
     have r0:=R4 0 _ rfl
     have r1:=R4 1 _ rfl
     have r2:=R4 2 _ rfl
     have r3:=R4 3 _ rfl
     have r4:=R4 4 _ rfl
     have r5:=R4 5 _ rfl
     have r6:=R4 6 _ rfl
     have r7:=R4 7 _ rfl
     simp only [Nat.zero_add] at r0 r1 r2 r3 r4 r5 r6 r7
     clear R4 Q4
     go_wp2
     refine bodyPost_ret (v:=.tuple #[.agg #[.int .i64 r.freq,.int .i64 r.every,.int .i64 r.count,.int .i64 r.till,.slice am r.months.length cm,.slice ad r.days.length cd,.slice aw r.weeks.length cw,.slice ap r.pick.length cp],.bool true]) (by simp [results,Tryz.results173,go_sem,r0,r1,r2,r3,r4,r5,r6,r7]) rfl ⟨B4,Or.inr ⟨_,_,N1.out,rfl,RI.out⟩⟩
    ·have N1:Hid (rw1 (ps.map (·.data.toList))=none):=Lib.hid (by rw [← hI,if_neg (fun e=>hz (by rw [← rest_len,e];rfl))])
     have hz':(((ps.length - d:Nat):Int) == 0)=false:=by rw [beq_eq_false_iff_ne];omega
     clear hI
     go_wp2_with (refine wpList_store_keep rfl 28 (.tmp 2) (.tmp 49) rfl w.heap.size _ rfl rfl T3 (by kernel_rfl) (by simp [Value.oneCell']) BW (Nat.le_refl _) ?_)
     intro W4 R4 B4 Q4
     have RI:=Lib.hid (FN.out W4 B4 Q4)
     have r0:=R4 0 _ rfl
     have r1:=R4 1 _ rfl
     have r2:=R4 2 _ rfl
     have r3:=R4 3 _ rfl
     have r4:=R4 4 _ rfl
     have r5:=R4 5 _ rfl
     have r6:=R4 6 _ rfl
     have r7:=R4 7 _ rfl
     simp only [Nat.zero_add] at r0 r1 r2 r3 r4 r5 r6 r7
     clear R4 Q4
     go_wp2
     refine bodyPost_ret (v:=.tuple #[.agg #[.int .i64 r.freq,.int .i64 r.every,.int .i64 r.count,.int .i64 r.till,.slice am r.months.length cm,.slice ad r.days.length cd,.slice aw r.weeks.length cw,.slice ap r.pick.length cp],.bool false]) (by simp [results,Tryz.results173,go_sem,r0,r1,r2,r3,r4,r5,r6,r7]) rfl ⟨B4,Or.inl ⟨N1.out,_,_,rfl,RI.out⟩⟩
end Go.Proofs.YtcadomjkjoiakaaGreatDoor
namespace Go.Proofs.YtcadomjkjoiakaaGreatDoor
open Go.RowKit Cal Txt
def pe (l:List UInt8):Int:=match rr l with
 | none=>2
 | some r=>rf r
theorem pe_none {l:List UInt8} (h:rr l=none):pe l=2:=by unfold pe;rw [h]
theorem pe_some {l:List UInt8} {r:Rl} (h:rr l=some r):pe l=rf r:=by unfold pe;rw [h]
theorem rr_rw (s:ByteArray):rr s.data.toList=rw1 ((pcs 32 s).map (·.data.toList)):=by
 rw [pcs_cut]
 unfold rr rw1
 cases cutAt 32 s.data.toList <;> rfl
def ParseF (w:World) (l:List UInt8) (e:Ending) (w':World):Prop:=
 Below w.heap.size w w'∧((¬ pe l=0∧e=.returned (.tuple #[.agg #[.int .i64 0,.int .i64 0,.int .i64 0,.int .i64 0,.slice none 0 0,.slice none 0 0,.slice none 0 0,.slice none 0 0],.iface 73 (.int .i64 (pe l))]))∨∃ r v,rr l=some r∧rf r=0∧e=.returned (.tuple #[v,.nilIface])∧RuleFr w' w.heap.size v r)
theorem ret_err {k j:Int} (h:k=j) (v:Value) (t:TypeId):Ending.returned (.tuple #[v,.iface t (.int .i64 k)])=.returned (.tuple #[v,.iface t (.int .i64 j)]):=by rw [h]
set_option maxRecDepth 100000 in
set_option maxHeartbeats 4000000 in
theorem parse_far (s:ByteArray) (w:World) (hK:KeepP w) (hs:s.size≤2000000) :
 Calls Tryz.prog 113 #[.string s] w (ParseF w s.data.toList):=by
 have B0:Below w.heap.size w (w.alloc (.cells #[.int .i64 0,.int .i64 0,.int .i64 0,.int .i64 0,.slice none 0 0,.slice none 0 0,.slice none 0 0,.slice none 0 0] 28)):=(Below.refl _ _).alloc (Nat.le_refl _) _
 have B1:Below w.heap.size w ((w.alloc (.cells #[.int .i64 0,.int .i64 0,.int .i64 0,.int .i64 0,.slice none 0 0,.slice none 0 0,.slice none 0 0,.slice none 0 0] 28)).alloc (.cells ((pcs 32 s).map Value.string).toArray 9)):=B0.alloc B0.size _
 have T1:=Lib.hid (there_on (there_new w 28) ((Below.refl _ _).alloc (Nat.le_refl _) (.cells ((pcs 32 s).map Value.string).toArray 9)) (by simp))
 have PL:(pcs 32 s).length≤2000001∧0<(pcs 32 s).length:=by
  rw [pcs_len]
  have:=List.count_le_length (a:=(32:UInt8)) (l:=s.data.toList)
  have e:s.data.toList.length=s.size:=rfl
  omega
 have KW:=Lib.hid (parseWords_any (pcs 32 s) (w.heap.size + 1) ((w.alloc (.cells #[.int .i64 0,.int .i64 0,.int .i64 0,.int .i64 0,.slice none 0 0,.slice none 0 0,.slice none 0 0,.slice none 0 0] 28)).alloc (.cells ((pcs 32 s).map Value.string).toArray 9))
  (fun j h=>by have e:(w.alloc (.cells #[.int .i64 0,.int .i64 0,.int .i64 0,.int .i64 0,.slice none 0 0,.slice none 0 0,.slice none 0 0,.slice none 0 0] 28)).heap.size=w.heap.size + 1:=by simp
               rw [← e];simp [h]) PL.2 PL.1 (fun x hx=>by have:=pcs_size 32 s x hx;omega) (hK.below B1))
 rw [← rr_rw] at KW
 have sz:((w.alloc (.cells #[.int .i64 0,.int .i64 0,.int .i64 0,.int .i64 0,.slice none 0 0,.slice none 0 0,.slice none 0 0,.slice none 0 0] 28)).alloc (.cells ((pcs 32 s).map Value.string).toArray 9)).heap.size=w.heap.size + 2:=by simp
 have HB1:=Lib.hid B1
 clear B0 B1 hK PL
 go_enter Tryz.func113,Tryz.ntmps113
 go_wp2_with fail
 refine (split_one s 32 _ (by omega)).mono ?_
 rintro e w1 ⟨rfl,hw⟩
 subst hw
 go_wp2_with fail
 generalize ((w.alloc (.cells #[.int .i64 0,.int .i64 0,.int .i64 0,.int .i64 0,.slice none 0 0,.slice none 0 0,.slice none 0 0,.slice none 0 0] 28)).alloc (.cells ((pcs 32 s).map Value.string).toArray 9))=W1 at T1 KW sz HB1 ⊢
 refine KW.out.mono ?_
 rintro e w2 ⟨hb2,hv⟩
 have T3:=there_on T1.out hb2 (by rw [sz];omega)
 have BW:=HB1.out.trans (hb2.mono HB1.out.size)
 rw [sz] at hv
 clear T1 KW HB1 sz hb2
 rcases hv with ⟨ho,r,v,rfl,hv⟩ | ⟨r,v,ho,rfl,hv⟩
 ·have N1:=Lib.hid (pe_none ho)
  obtain ⟨vm,vd,vw,vp,rfl,⟨m1,m2⟩,⟨d1,d2⟩,⟨k1,k2⟩,p1,p2⟩:=hv
  obtain ⟨am,cm,rfl,_⟩:=id m1
  obtain ⟨ad,cd,rfl,_⟩:=id d1
  obtain ⟨aw,cw,rfl,_⟩:=id k1
  obtain ⟨ap,cp,rfl,_⟩:=id p1
  clear m1 m2 d1 d2 k1 k2 p1 p2 ho
  have T4:=there_on T3 ((Below.refl _ _).alloc (Nat.le_refl _) (.cells #[.int .i64 r.freq,.int .i64 r.every,.int .i64 r.count,.int .i64 r.till,.slice am r.months.length cm,.slice ad r.days.length cd,.slice aw r.weeks.length cw,.slice ap r.pick.length cp] 28)) (by have:=(T3 0 (by decide)).1;rcases Nat.lt_or_ge w.heap.size w2.heap.size with g | g;exact g;simp [World.cell?,Array.getElem?_eq_none g] at this)
  have BW4:=BW.alloc BW.size (.cells #[.int .i64 r.freq,.int .i64 r.every,.int .i64 r.count,.int .i64 r.till,.slice am r.months.length cm,.slice ad r.days.length cd,.slice aw r.weeks.length cw,.slice ap r.pick.length cp] 28)
  go_wp2_with (refine wpList_store_keep rfl 28 (.tmp 2) (.tmp 15) rfl w.heap.size #[.int .i64 0,.int .i64 0,.int .i64 0,.int .i64 0,.slice none 0 0,.slice none 0 0,.slice none 0 0,.slice none 0 0] rfl rfl T4 (by kernel_rfl) (by simp [Value.oneCell']) BW4 (Nat.le_refl _) ?_)
  intro W4 R4 B4 _
  have r0:=R4 0 _ rfl
  have r1:=R4 1 _ rfl
  have r2:=R4 2 _ rfl
  have r3:=R4 3 _ rfl
  have r4:=R4 4 _ rfl
  have r5:=R4 5 _ rfl
  have r6:=R4 6 _ rfl
  have r7:=R4 7 _ rfl
  simp only [Nat.zero_add] at r0 r1 r2 r3 r4 r5 r6 r7
  clear R4
  go_wp2
  refine bodyPost_ret (v:=.tuple #[.agg #[.int .i64 0,.int .i64 0,.int .i64 0,.int .i64 0,.slice none 0 0,.slice none 0 0,.slice none 0 0,.slice none 0 0],.iface 73 (.int .i64 2)]) (by simp [results,Tryz.results113,go_sem,r0,r1,r2,r3,r4,r5,r6,r7]) rfl ⟨B4,Or.inl ⟨by rw [N1.out];decide,ret_err N1.out.symm _ _⟩⟩
 ·have HO:=Lib.hid ho
  obtain ⟨vm,vd,vw,vp,rfl,⟨m1,m2⟩,⟨d1,d2⟩,⟨k1,k2⟩,p1,p2⟩:=hv
  obtain ⟨am,cm,rfl,_⟩:=id m1
  obtain ⟨ad,cd,rfl,_⟩:=id d1
  obtain ⟨aw,cw,rfl,_⟩:=id k1
  obtain ⟨ap,cp,rfl,_⟩:=id p1
  have A0:Below w2.heap.size w2 (w2.alloc (.cells #[.int .i64 r.freq,.int .i64 r.every,.int .i64 r.count,.int .i64 r.till,.slice am r.months.length cm,.slice ad r.days.length cd,.slice aw r.weeks.length cw,.slice ap r.pick.length cp] 28)):=(Below.refl _ _).alloc (Nat.le_refl _) _
  have wl:w.heap.size<w2.heap.size:=by have:=(T3 0 (by decide)).1;rcases Nat.lt_or_ge w.heap.size w2.heap.size with g | g;exact g;simp [World.cell?,Array.getElem?_eq_none g] at this
  have T4:=there_on T3 A0 wl
  have BW4:=BW.alloc BW.size (.cells #[.int .i64 r.freq,.int .i64 r.every,.int .i64 r.count,.int .i64 r.till,.slice am r.months.length cm,.slice ad r.days.length cd,.slice aw r.weeks.length cw,.slice ap r.pick.length cp] 28)
  have KC:=Lib.hid (check_walk r am ad aw ap cm cd cw cp (w2.alloc (.cells #[.int .i64 r.freq,.int .i64 r.every,.int .i64 r.count,.int .i64 r.till,.slice am r.months.length cm,.slice ad r.days.length cd,.slice aw r.weeks.length cw,.slice ap r.pick.length cp] 28)) (m1.on A0) (d1.on A0) (k1.on A0) (p1.on A0))
  have HR:=Lib.hid (RBox.new w2 r.freq r.every r.count r.till (.slice am r.months.length cm) (.slice ad r.days.length cd) (.slice aw r.weeks.length cw) (.slice ap r.pick.length cp) 28)
  have KI:=Lib.hid (And.intro (And.intro (m1.on A0) m2) (And.intro (And.intro (d1.on A0) d2) (And.intro (And.intro (k1.on A0) k2) (And.intro (p1.on A0) p2))))
  clear m1 m2 d1 d2 k1 k2 p1 p2 ho A0 T3 BW
  have s1:w.heap.size<(w2.alloc (.cells #[.int .i64 r.freq,.int .i64 r.every,.int .i64 r.count,.int .i64 r.till,.slice am r.months.length cm,.slice ad r.days.length cd,.slice aw r.weeks.length cw,.slice ap r.pick.length cp] 28)).heap.size:=by simp;omega
  go_wp2_with fail
  generalize w2.alloc (.cells #[.int .i64 r.freq,.int .i64 r.every,.int .i64 r.count,.int .i64 r.till,.slice am r.months.length cm,.slice ad r.days.length cd,.slice aw r.weeks.length cw,.slice ap r.pick.length cp] 28)=W2 at T4 BW4 KC HR KI s1 ⊢
  refine KC.out.mono ?_
  rintro e w3 ⟨rfl,hb3⟩
  have T5:=there_on T4 hb3 s1
  have BW5:=BW4.trans (hb3.mono BW4.size)
  by_cases hz:rf r=0
  ·rw [fault_zero hz]
   have KJ:Hid (∀ W4:World,(∀ g o,w.heap.size<g→W4.cell? ⟨g,o,none⟩=w3.cell? ⟨g,o,none⟩)→RuleFr W4 w.heap.size (.agg #[.int .i64 r.freq,.int .i64 r.every,.int .i64 r.count,.int .i64 r.till,.slice am r.months.length cm,.slice ad r.days.length cd,.slice aw r.weeks.length cw,.slice ap r.pick.length cp]) r):=Lib.hid (fun W4 q=>by
    obtain ⟨⟨m1,m2⟩,⟨d1,d2⟩,⟨k1,k2⟩,p1,p2⟩:=KI.out
    have q':∀ g o,w.heap.size + 2<g→W4.cell? ⟨g,o,none⟩=w3.cell? ⟨g,o,none⟩:=fun g o h=>q g o (by omega)
    exact ⟨_,_,_,_,rfl,⟨(m1.on hb3).keep m2 q',m2.le (by omega)⟩,⟨(d1.on hb3).keep d2 q',d2.le (by omega)⟩,⟨(k1.on hb3).keep k2 q',k2.le (by omega)⟩,(p1.on hb3).keep p2 q',p2.le (by omega)⟩)
   obtain ⟨x0,x1,x2,x3,x4,x5,x6,x7⟩:=HR.out.on hb3
   have HZ:=Lib.hid hz
   clear hz KI KC HR T4 BW4 hb3 s1
   go_wp2_with (refine wpList_store_keep rfl 28 (.tmp 2) (.tmp 23) rfl w.heap.size #[.int .i64 r.freq,.int .i64 r.every,.int .i64 r.count,.int .i64 r.till,.slice am r.months.length cm,.slice ad r.days.length cd,.slice aw r.weeks.length cw,.slice ap r.pick.length cp] rfl rfl T5 (by kernel_rfl) (by simp [Value.oneCell']) BW5 (Nat.le_refl _) ?_)
   intro W4 R4 B4 Q4
   have RI:=Lib.hid (KJ.out W4 Q4)
   have r0:=R4 0 _ rfl
   have r1:=R4 1 _ rfl
   have r2:=R4 2 _ rfl
   have r3:=R4 3 _ rfl
   have r4:=R4 4 _ rfl
   have r5:=R4 5 _ rfl
   have r6:=R4 6 _ rfl
   have r7:=R4 7 _ rfl
   simp only [Nat.zero_add] at r0 r1 r2 r3 r4 r5 r6 r7
   clear R4 Q4
   go_wp2
   refine bodyPost_ret (v:=.tuple #[.agg #[.int .i64 r.freq,.int .i64 r.every,.int .i64 r.count,.int .i64 r.till,.slice am r.months.length cm,.slice ad r.days.length cd,.slice aw r.weeks.length cw,.slice ap r.pick.length cp],.nilIface]) (by simp [results,Tryz.results113,go_sem,r0,r1,r2,r3,r4,r5,r6,r7]) rfl ⟨B4,Or.inr ⟨_,_,HO.out,HZ.out,rfl,RI.out⟩⟩
  ·rw [fault_some hz]
   have N1:=Lib.hid (pe_some HO.out)
   have HZ:=Lib.hid hz
   clear hz KI KC HR T4 BW4 hb3 s1
   go_wp2_with (refine wpList_store_keep rfl 28 (.tmp 2) (.tmp 21) rfl w.heap.size #[.int .i64 0,.int .i64 0,.int .i64 0,.int .i64 0,.slice none 0 0,.slice none 0 0,.slice none 0 0,.slice none 0 0] rfl rfl T5 (by kernel_rfl) (by simp [Value.oneCell']) BW5 (Nat.le_refl _) ?_)
   intro W4 R4 B4 _
   have r0:=R4 0 _ rfl
   have r1:=R4 1 _ rfl
   have r2:=R4 2 _ rfl
   have r3:=R4 3 _ rfl
   have r4:=R4 4 _ rfl
   have r5:=R4 5 _ rfl
   have r6:=R4 6 _ rfl
   have r7:=R4 7 _ rfl
   simp only [Nat.zero_add] at r0 r1 r2 r3 r4 r5 r6 r7
   clear R4
   go_wp2
   refine bodyPost_ret (v:=.tuple #[.agg #[.int .i64 0,.int .i64 0,.int .i64 0,.int .i64 0,.slice none 0 0,.slice none 0 0,.slice none 0 0,.slice none 0 0],.iface 73 (.int .i64 (rf r))]) (by simp [results,Tryz.results113,go_sem,r0,r1,r2,r3,r4,r5,r6,r7]) rfl ⟨B4,Or.inl ⟨by rw [N1.out];exact HZ.out,ret_err N1.out.symm _ _⟩⟩
end Go.Proofs.YtcadomjkjoiakaaGreatDoor
