/-
  Texts of our own that serve the card of this claim, joined into one.
-/
import Derived.Test.YtcadomjkjoiakaaGreatDoorQZ
import Derived.Test.YtcadomjkjoiakaaGreatDoorShelf
import Derived.Lib.Builder
import Derived.Lib.AppendStr
import Derived.Lib.FrozenHead
import Derived.Laws.Externs
import Derived.Test.YtcadomjkjoiakaaGreatDoorLnTxs
import Derived.Test.YtcadomjkjoiakaaGreatDoorRB
import Derived.Lib.Bytealg
namespace Go.Proofs.YtcadomjkjoiakaaGreatDoor
open Go.RowKit Cal Ln
theorem bldSize:(Tryz.prog.info? 57).map (·.size)=some 2:=by kernel_rfl
theorem bldLies:liesAt Tryz.prog Tryz.prog.depth 57 (2 / Tryz.prog.cellsOf 57) 0 57 1=true:=by kernel_rfl
set_option maxHeartbeats 1000000 in
set_option maxRecDepth 100000 in
theorem bcheck_used (b:Nat) (w:World) (h0:w.cell? ⟨b,0,none⟩=some (.pointer (some ⟨b,0,none⟩))) :
 Calls Tryz.prog 30 #[.pointer (some ⟨b,0,none⟩)] w fun e w'=>e=.returned (.tuple #[])∧w'=w:=by
 obtain ⟨j,hj,_⟩:=Option.map_eq_some_iff.1 bldSize
 go_enter Tryz.func30,Tryz.ntmps30
 go_wp2
 rw [Lib.run_neq_ptr_same w _ Tryz.underlying54 hj]
 go_wp2
 go_end0
 exact ⟨rfl,rfl⟩
set_option maxHeartbeats 1000000 in
set_option maxRecDepth 100000 in
theorem bcheck_fresh (b:Nat) (w:World) (h0:w.cell? ⟨b,0,none⟩=some (.pointer none)) (hsh:w.shape? b=some (57,2)) (hfz:w.frozen? ⟨b,0,none⟩=false) :
 Calls Tryz.prog 30 #[.pointer (some ⟨b,0,none⟩)] w fun e w'=>e=.returned (.tuple #[])∧w'=w.setCell ⟨b,0,none⟩ (.pointer (some ⟨b,0,none⟩)):=by
 obtain ⟨j,hj,hjs⟩:=Option.map_eq_some_iff.1 bldSize
 go_enter Tryz.func30,Tryz.ntmps30
 go_wp2
 rw [Lib.run_to_unsafe w ⟨b,0,none⟩ Tryz.underlying54 Tryz.underlying130 hj (by rw [hjs];decide) hsh (Nat.zero_lt_succ 1)]
 simp only [Result.andThen]
 rw [Oper.upon_value]
 go_wp2
 rw [run_callFunc_extern Tryz.func74 (by kernel_rfl) (by kernel_rfl) (by kernel_rfl) (e:=Extern.AbiNoEscape.same) (by kernel_rfl)]
 rw [Lib.run_noEscape]
 simp only [Result.andThen]
 rw [Oper.upon_value]
 go_wp2
 rw [Lib.run_from_unsafe w ⟨b,0,none⟩ Tryz.underlying130 Tryz.underlying54 hj hsh bldLies]
 simp only [Result.andThen]
 rw [Oper.upon_value]
 go_wp2
 go_end0
 exact ⟨rfl,rfl⟩
theorem bcheck_any (B b:Nat) (bs:List Value) (w:World) (h:Lib.IsBuilder 57 5 B b bs w) :
 Calls Tryz.prog 30 #[.pointer (some ⟨b,0,none⟩)] w fun e w'=>e=.returned (.tuple #[])∧(Lib.BuilderAt 57 5 B b (.pointer (some ⟨b,0,none⟩)) bs w'∧Below B w w'):=by
 rcases h with h | h
 ·refine (bcheck_fresh b w h.cell0 h.shape h.frozen0).mono ?_
  rintro e w' ⟨rfl,rfl⟩
  exact ⟨rfl,h.used _,(Below.refl B w).setCell (p:=⟨b,0,none⟩) h.1 _⟩
 ·refine (bcheck_used b w h.cell0).mono ?_
  rintro e w' ⟨rfl,rfl⟩
  exact ⟨rfl,h,Below.refl B _⟩
set_option maxHeartbeats 2000000 in
set_option maxRecDepth 100000 in
theorem bwrite_any (B b:Nat) (bs:List Value) (s:ByteArray) (w:World) (h:Lib.IsBuilder 57 5 B b bs w) (hlen:bs.length + s.size≤140737488355328) (hBw:B≤w.heap.size) :
 Calls Tryz.prog 14 #[.pointer (some ⟨b,0,none⟩),.string s] w fun e w'=>e=.returned (.tuple #[.int .i64 s.size,.nilIface])∧(Lib.BuilderAt 57 5 B b (.pointer (some ⟨b,0,none⟩)) (bs++Lib.strCells s) w'∧Below B w w'):=by
 obtain ⟨i0,hi,hz0,hz1,hz2⟩:=info_parts info_u8
 go_enter Tryz.func14,Tryz.ntmps14
 go_wp2_with fail
 refine (bcheck_any B b bs _ h).mono ?_
 rintro e w1 ⟨rfl,h1,hb1⟩
 obtain ⟨hB,v,hbk,hown,hne⟩:=h1
 have c0:w1.cell? ⟨b,0,none⟩=some (.pointer (some ⟨b,0,none⟩)):=by rw [Lib.cell_of_heap hbk];rfl
 have c1:w1.cell? ⟨b,1,none⟩=some v:=by rw [Lib.cell_of_heap hbk];rfl
 go_wp2_with (at_builtin;refine Lib.wpList_append_own_string _ rfl _ _ 55 9 rfl B 5 i0 Tryz.underlying55 Tryz.underlying9 hi hz0 hz1 hz2 _ _ _ rfl hown s rfl ?c3 ?c4 ?c5 ?_)
 case c3=>unfold maxLen;omega
 case c4=>omega
 case c5=>have:=hb1.size;omega
 intro v' w2 hown' hgrow _
 have hlt:b<w1.heap.size:=by
  rcases Nat.lt_or_ge b w1.heap.size with h' | h'
  ·exact h'
  ·simp [Array.getElem?_eq_none h'] at hbk
 have hb2:w2.heap[b]?=some (.cells #[.pointer (some ⟨b,0,none⟩),v] 57 (0,0)):=by
  rw [hgrow.block b hlt (fun e=>hne e.symm)]
  exact hbk
 have d0:w2.cell? ⟨b,0,none⟩=some (.pointer (some ⟨b,0,none⟩)):=by rw [Lib.cell_of_heap hb2];rfl
 have d1:w2.cell? ⟨b,1,none⟩=some v:=by rw [Lib.cell_of_heap hb2];rfl
 have f1:w2.frozen? ⟨b,1,none⟩=false:=Lib.frozen_of_heap hb2 1
 obtain ⟨ao,n',cap,rfl⟩:∃ ao n' cap,v'=.slice ao n' cap:=by
  rcases hown'.2 with ⟨hv,_⟩ | ⟨g,cap,cur,hv,_⟩
  ·exact ⟨_,_,_,hv⟩
  ·exact ⟨_,_,_,hv⟩
 go_wp2
 go_ret2
 refine ⟨rfl,?_,?_⟩
 ·exact Lib.BuilderAt.put (T:=57) (e:=5) hB hb2 (bs':=bs++Lib.strCells s) (by simpa [Lib.strCells_length] using hown') (by decide)
 ·exact (hb1.grown hgrow (by have:=hb1.size;omega) (fun k hk=>(hown.lt k hk).1)).setCell (p:=⟨b,1,none⟩) hB _
theorem isF_below {T e:TypeId} {B b:Nat} {bs:List Value} {W W':World} (h:Lib.IsBuilderF T e B b bs W) (q:Below W.heap.size W W'):Lib.IsBuilderF T e B b bs W':=by
 have key:∀ p,Lib.BuilderAtF T e B b p bs W→Lib.BuilderAtF T e B b p bs W':=by
  rintro p ⟨hB,v,hb,hown,hne⟩
  have hlt:b<W.heap.size:=by
   rcases Nat.lt_or_ge b W.heap.size with k | k
   ·exact k
   ·rw [Array.getElem?_eq_none k] at hb;cases hb
  refine ⟨hB,v,(q.block b hlt).trans hb,⟨hown.1,?_⟩,hne⟩
  rcases hown.2 with a | ⟨g,cap,cur,fz,hv,hbg,hg,r⟩
  ·exact Or.inl a
  ·have hlt2:g<W.heap.size:=by
    rcases Nat.lt_or_ge g W.heap.size with k | k
    ·exact k
    ·rw [Array.getElem?_eq_none k] at hg;cases hg
   exact Or.inr ⟨g,cap,cur,fz,hv,hbg,(q.block g hlt2).trans hg,r⟩
 exact h.elim (fun x=>.inl (key _ x)) (fun x=>.inr (key _ x))
end Go.Proofs.YtcadomjkjoiakaaGreatDoor
namespace Go.Proofs.YtcadomjkjoiakaaGreatDoor
open Go.RowKit Cal Ln
def pcl (xs:List ByteArray):List (List UInt8):=xs.map (·.data.toList)
theorem pcl_inj:∀ {xs ys:List ByteArray},pcl xs=pcl ys→xs=ys
 | [],[],_=>rfl
 | [],_ :: _,h=>by cases h
 | _ :: _,[],h=>by cases h
 | x :: xs,y :: ys,h=>by
   have h1:=(List.cons.inj h).1
   have h2:=(List.cons.inj h).2
   rw [pcl_inj h2]
   congr 1
   exact ByteArray.ext (Array.ext' h1)
def tot (ps:List (List UInt8)):Nat:=(ps.map List.length).sum
theorem tot_cons (p:List UInt8) (ps:List (List UInt8)):tot (p :: ps)=p.length + tot ps:=by simp [tot]
theorem trim_cons (b:UInt8) (r:List UInt8):trim (b :: r)=if b=32 then r else b :: r:=by simp [trim]
theorem trim_len (p:List UInt8):(trim p).length≤p.length:=by
 cases p with
 | nil=>exact Nat.le_refl _
 | cons b r=>rw [trim_cons];split <;> simp
theorem flatT_len:∀ (ps:List (List UInt8)),(ps.flatMap trim).length≤tot ps
 | []=>by simp [tot]
 | p :: ps=>by
   rw [List.flatMap_cons,List.length_append,tot_cons]
   have:=trim_len p
   have:=flatT_len ps
   omega
theorem unf_len (ps:List (List UInt8)):(unf ps).length≤tot ps:=by
 cases ps with
 | nil=>simp [unf]
 | cons p ps=>
   show (p++ps.flatMap trim).length≤_
   rw [List.length_append,tot_cons]
   have:=flatT_len ps
   omega
theorem tot_take:∀ (ps:List (List UInt8)) (k:Nat),tot (ps.take k)≤tot ps
 | [],k=>by simp
 | p :: ps,0=>by simp [tot]
 | p :: ps,k + 1=>by
   rw [List.take_succ_cons,tot_cons,tot_cons]
   have:=tot_take ps k
   omega
def adds (k:Nat) (p:List UInt8):List UInt8:=if k=0 then p else trim p
theorem unf_next {ps:List (List UInt8)} {k:Nat} (h:k<ps.length):unf (ps.take (k + 1))=unf (ps.take k)++adds k ps[k]:=by
 cases ps with
 | nil=>simp at h
 | cons p ps=>
   cases k with
   | zero=>simp [unf,adds]
   | succ k=>
     have h':k<ps.length:=by simpa using h
     rw [List.take_succ_cons,List.take_succ_cons,List.getElem_cons_succ]
     show p++(ps.take (k + 1)).flatMap trim=(p++(ps.take k).flatMap trim)++(if k + 1=0 then _ else _)
     rw [if_neg (by omega),List.take_succ_eq_append_getElem h',List.flatMap_append,List.append_assoc]
     simp
theorem trim_lib (p:List UInt8):Lib.trimPrefix p [32]=trim p:=by
 cases p with
 | nil=>rfl
 | cons b r=>
   unfold Lib.trimPrefix Lib.hasPrefix
   rw [trim_cons]
   by_cases h:b=32
   ·subst h;simp
   ·rw [if_neg h,if_neg]
    simp [List.isPrefixOf]
    exact fun k=>h k.symm
theorem adds_le {ps:List (List UInt8)} {k:Nat} (h:k<ps.length):(unf (ps.take k)).length + (adds k ps[k]).length≤tot ps:=by
 have e:=congrArg List.length (unf_next h)
 rw [List.length_append] at e
 have a:=unf_len (ps.take (k + 1))
 have b:=tot_take ps (k + 1)
 omega
def unB (xs:List ByteArray):Bool:=decide (fold (unf (pcl xs))=pcl xs)
def unV (xs:List ByteArray):ByteArray:=if unB xs then tb (unf (pcl xs)) else ⟨#[]⟩
def unF (xs:List ByteArray):Int:=if unB xs then 0 else 2
theorem bytes_app (l:List UInt8) (s:ByteArray):Lib.byteCells l++Lib.strCells s=Lib.byteCells (l++s.data.toList):=by simp [Lib.byteCells,Lib.strCells]
set_option maxRecDepth 100000 in
set_option maxHeartbeats 4000000 in
theorem unfold_any (xs:List ByteArray) (v:Value) (w:World) (hv:Txs w v xs) (hl:xs.length≤4194304) (ht:tot (pcl xs)≤4194304) :
 Calls Tryz.prog 34 #[v] w fun e w'=>e=.returned (.tuple #[.string (unV xs),fault (unF xs)])∧Below w.heap.size w w':=by
 have HV:=Lib.hid hv
 obtain ⟨a,cap,rfl,hc⟩:=hv
 clear hc
 go_enter Tryz.func34,Tryz.ntmps34
 go_wp2
 go_loopw [9] (fun i wr=>∃ k:Nat,k≤xs.length∧i=.int .i64 k∧Lib.IsBuilder 57 5 w.heap.size w.heap.size (Lib.byteCells (unf ((pcl xs).take k))) wr∧Below w.heap.size w wr) (fun i _=>xs.length - (intOf i).toNat)
 case atStart=>exact ⟨0,Nat.zero_le _,rfl,Lib.fresh_isBuilder _ _ _,(Below.refl _ _).alloc (Nat.le_refl _) _⟩
 case round=>
  obtain ⟨k,hk,rfl,hI,hB⟩:=hrel
  have HI:=Lib.hid hI
  clear hI
  by_cases hlt:k<xs.length
  ·obtain ⟨a',c',e',hc⟩:=HV.out.on hB
   obtain ⟨rfl,rfl⟩:a=a'∧cap=c':=by simpa using e'
   rcases hc with hc | ⟨b,off,rfl,hc⟩
   ·rw [hc] at hlt;simp at hlt
   have q1:=hc k hlt
   obtain ⟨x,hx⟩:∃ x,x=xs.getD k ByteArray.empty:=⟨_,rfl⟩
   rw [← hx] at q1
   have hp:k<(pcl xs).length:=by unfold pcl;rw [List.length_map];exact hlt
   have hx2:(pcl xs)[k]=x.data.toList:=by
    rw [hx,List.getD_eq_getElem?_getD,List.getElem?_eq_getElem hlt]
    simp [pcl]
   have UN:=unf_next hp
   have AL:=adds_le hp
   rw [hx2] at UN AL
   have HU:=Lib.hid UN
   have sz:=hB.size
   clear hx hc e' hx2 UN hp
   by_cases k0:k=0
   ·subst k0
    rw [Nat.add_zero] at q1
    have e1:adds 0 x.data.toList=x.data.toList:=rfl
    rw [e1] at AL HU
    clear e1
    have AL2:(Lib.byteCells (unf ((pcl xs).take 0))).length + x.size≤140737488355328:=by
     rw [Lib.byteCells_length];have:x.size=x.data.toList.length:=rfl;omega
    have HA:=Lib.hid AL2
    clear AL AL2
    go_wp2_with fail
    refine (bwrite_any _ _ _ x _ HI.out HA.out sz).mono ?_
    rintro e w1 ⟨rfl,hb1,hb2⟩
    have HN:=Lib.hid (Or.inr hb1:Lib.IsBuilder 57 5 _ _ _ w1)
    rw [bytes_app,← HU.out] at HN
    have HB:=Lib.hid (hB.trans hb2)
    clear hb1 hb2
    go_wp2
    go_roundw
    case rel=>exact ⟨1,by omega,by go_num,HN.out,HB.out⟩
    case measure=>simp [intOf];omega
   ·have e1:adds k x.data.toList=trim x.data.toList:=by unfold adds;rw [if_neg k0]
    rw [e1] at AL HU
    have kp:0<k:=by omega
    clear e1 k0
    go_wp2_with fail
    refine (Tryz.strings_TrimPrefix x ⟨#[32]⟩ _).mono ?_
    rintro e w0 ⟨rfl,hw⟩
    subst hw
    rw [trim_lib]
    have AL2:(Lib.byteCells (unf ((pcl xs).take k))).length + (⟨(trim x.data.toList).toArray⟩:ByteArray).size≤140737488355328:=by
     rw [Lib.byteCells_length];have:(⟨(trim x.data.toList).toArray⟩:ByteArray).size=(trim x.data.toList).length:=by simp [ByteArray.size]
     omega
    have HA:=Lib.hid AL2
    clear AL AL2
    go_wp2_with fail
    refine (bwrite_any _ _ _ ⟨(trim x.data.toList).toArray⟩ _ HI.out HA.out sz).mono ?_
    rintro e w1 ⟨rfl,hb1,hb2⟩
    have HN:=Lib.hid (Or.inr hb1:Lib.IsBuilder 57 5 _ _ _ w1)
    rw [bytes_app] at HN
    have HN2:Hid (Lib.IsBuilder 57 5 w.heap.size w.heap.size (Lib.byteCells (unf ((pcl xs).take (k + 1)))) w1):=Lib.hid (by rw [HU.out];exact HN.out)
    have HB:=Lib.hid (hB.trans hb2)
    clear hb1 hb2 HN
    go_wp2
    go_roundw
    case rel=>exact ⟨k + 1,by omega,by go_num,HN2.out,HB.out⟩
    case measure=>simp [intOf];omega
  ·have ek:(pcl xs).take k=pcl xs:=List.take_of_length_le (by unfold pcl;rw [List.length_map];omega)
   have HF:=Lib.hid (Lib.IsBuilderF.of HI.out)
   rw [ek] at HF
   have UL:=unf_len (pcl xs)
   have hkl:k=xs.length:=by omega
   subst hkl
   have sz:=hB.size
   clear HI ek
   go_wp2_with fail
   refine (Tryz.Builder_String_any_f _ _ (unf (pcl xs)) _ HF.out sz).mono ?_
   rintro e w1 ⟨rfl,hF1,hb1⟩
   have HF1:=Lib.hid hF1
   have HB1:=Lib.hid (hB.trans hb1)
   have sz1:=(hB.trans hb1).size
   clear hF1 hb1 HF
   go_wp2_with fail
   refine (fold_any ⟨(unf (pcl xs)).toArray⟩ _ (by show (unf (pcl xs)).toArray.size≤_;rw [List.size_toArray];omega)).mono ?_
   rintro e w2 ⟨hb2,vf,ys,rfl,hown,hys⟩
   have e2:(⟨(unf (pcl xs)).toArray⟩:ByteArray).data.toList=unf (pcl xs):=rfl
   rw [e2] at hown hys
   have HF2:=Lib.hid (isF_below HF1.out hb2)
   have HB2:=Lib.hid (HB1.out.trans (hb2.mono sz1))
   have sz2:=HB2.out.size
   have HY:=Lib.hid hys
   have lY:ys.length=(fold (unf (pcl xs))).length:=by rw [← hys,List.length_map]
   have hp0:0<(fold (unf (pcl xs))).length:=by show 0<(_ :: _).length;simp
   have fl:=fold_len (unf (pcl xs))
   obtain ⟨g,cf,rfl,hg,hcf,hcells⟩:=own_texts hown hp0
   have HC:=Lib.hid hcells
   clear hcells hys hb2 hown e2 HF1
   obtain ⟨n,hn⟩:∃ n,n=(fold (unf (pcl xs))).length:=⟨_,rfl⟩
   rw [← hn] at lY hp0 hcf
   have HNN:=Lib.hid hn
   rw [← hn] at fl
   clear hn
   have nb:n≤9223372036854775807:=by omega
   clear fl
   have HEQ:Hid (Calls Tryz.prog 78 #[.slice (some ⟨g,0,none⟩) n cf,.slice a xs.length cap] w2 fun e w'=>e=.returned (.bool (unB xs))∧Below w2.heap.size w2 w'):=by
    refine Lib.hid ?_
    by_cases hne:n=xs.length
    ·obtain ⟨a',c',e',hc⟩:=HV.out.on HB2.out
     obtain ⟨rfl,rfl⟩:a=a'∧cap=c':=by simpa using e'
     rcases hc with hc | ⟨b,off,rfl,hc⟩
     ·rw [hc] at hne;simp at hne;omega
     refine (Tryz.slices_Equal_string g 0 n cf b off xs.length cap ys xs w2 (by omega) (Nat.le_refl _) nb (by omega) (fun j hj=>HC.out j _ (by rw [List.getD_eq_getElem?_getD,List.getElem?_eq_getElem hj];rfl)) hc).mono ?_
     rintro e w' ⟨rfl,q,rfl⟩
     refine ⟨?_,tx_drewN (Below.refl _ _) _⟩
     congr 2
     unfold unB
     rw [List.take_of_length_le (by omega),List.take_of_length_le (Nat.le_refl _)]
     apply decide_eq_decide.2
     constructor
     ·intro h
      rw [← HY.out,h];rfl
     ·intro h
      exact pcl_inj (by rw [← h];exact HY.out)
    ·refine (Tryz.slices_Equal_string_lens _ _ n cf xs.length cap w2 hne).mono ?_
     rintro e w' ⟨rfl,rfl⟩
     refine ⟨?_,Below.refl _ _⟩
     have:unB xs=false:=by
      unfold unB
      rw [decide_eq_false_iff_not]
      intro h
      apply hne
      rw [HNN.out,h]
      simp [pcl]
     rw [this]
   rw [← HNN.out]
   go_wp2_with fail
   refine HEQ.out.mono ?_
   rintro e w3 ⟨rfl,hb3⟩
   have HF3:=Lib.hid (isF_below HF2.out hb3)
   have HB3:=Lib.hid (HB2.out.trans (hb3.mono sz2))
   have sz3:=HB3.out.size
   clear hb3 HF2 HEQ
   rcases hu:unB xs with _ | _
   ·have E1:=Lib.hid (show unV xs=⟨#[]⟩ by unfold unV;rw [hu];rfl)
    have E2:=Lib.hid (show unF xs=2 by unfold unF;rw [hu];rfl)
    go_wp2
    go_ret2
    exact ⟨by rw [E1.out,E2.out];rfl,HB3.out⟩
   ·have E1:=Lib.hid (show unV xs=tb (unf (pcl xs)) by unfold unV;rw [hu];rfl)
    have E2:=Lib.hid (show unF xs=0 by unfold unF;rw [hu];rfl)
    go_wp2_with fail
    refine (Tryz.Builder_String_any_f _ _ (unf (pcl xs)) _ HF3.out sz3).mono ?_
    rintro e w4 ⟨rfl,_,hb4⟩
    have HB4:=Lib.hid (HB3.out.trans hb4)
    clear hb4
    go_wp2
    go_ret2
    exact ⟨by rw [E1.out,E2.out];rfl,HB4.out⟩
end Go.Proofs.YtcadomjkjoiakaaGreatDoor
namespace Go.Proofs.YtcadomjkjoiakaaGreatDoor
open Go.RowKit Cal Ln
theorem at1_lib (c:UInt8):∀ l,Lib.indexByte l c=if at1 c l<l.length then (at1 c l:Int) else -1
 | []=>rfl
 | b :: r=>by
   unfold Lib.indexByte at1
   by_cases h:b=c
   ·rw [if_pos h,if_pos (by simpa using h)];simp
   ·rw [if_neg h,if_neg (by simpa using h),at1_lib c r]
    by_cases k:at1 c r<r.length
    ·have:((if at1 c r<r.length then (at1 c r:Int) else -1) == -1)=false:=by rw [if_pos k];simp
     rw [this,if_pos k]
     simp [k]
    ·have:((if at1 c r<r.length then (at1 c r:Int) else -1) == -1)=true:=by rw [if_neg k];rfl
     rw [this]
     simp [k]
def ctA (c:UInt8) (s:ByteArray):ByteArray:=if at1 c s.data.toList<s.size then s.extract 0 (at1 c s.data.toList) else s
def ctB (c:UInt8) (s:ByteArray):ByteArray:=if at1 c s.data.toList<s.size then s.extract (at1 c s.data.toList + 1) s.size else ⟨#[]⟩
def ctF (c:UInt8) (s:ByteArray):Bool:=decide (at1 c s.data.toList<s.size)
set_option maxRecDepth 100000 in
set_option maxHeartbeats 2000000 in
theorem litecut_any (s:ByteArray) (c:UInt8) (w:World) (hs:s.size≤140737488355328) :
 Calls Tryz.prog 75 #[.string s,.string ⟨#[c]⟩] w fun e w'=>e=.returned (.tuple #[.string (ctA c s),.string (ctB c s),.bool (ctF c s)])∧Below w.heap.size w w':=by
 have IL:=at1_lib c s.data.toList
 by_cases h:at1 c s.data.toList<s.size
 ·have e1:=Lib.hid (show ctA c s=s.extract 0 (at1 c s.data.toList) from if_pos h)
  have e2:=Lib.hid (show ctB c s=s.extract (at1 c s.data.toList + 1) s.size from if_pos h)
  have e3:=Lib.hid (show ctF c s=true from decide_eq_true h)
  rw [if_pos (show at1 c s.data.toList<s.data.toList.length from h)] at IL
  have HI:=Lib.hid IL
  clear IL
  obtain ⟨k,hk⟩:∃ k,k=at1 c s.data.toList:=⟨_,rfl⟩
  rw [← hk] at e1 e2 h HI
  clear hk
  go_enter Tryz.func75,Tryz.ntmps75
  go_wp2_with fail
  refine (Tryz.stringslite_Index_one s c _).mono ?_
  rintro e w1 ⟨rfl,hw⟩
  subst hw
  rw [HI.out]
  go_wp2
  go_quiet (fail)
  go_wp2
  go_ret3
  exact ⟨by rw [e1.out,e2.out,e3.out];rfl,ln_drewN (Below.refl _ _) _⟩
 ·have e1:=Lib.hid (show ctA c s=s from if_neg h)
  have e2:=Lib.hid (show ctB c s=⟨#[]⟩ from if_neg h)
  have e3:=Lib.hid (show ctF c s=false from decide_eq_false h)
  rw [if_neg (show ¬ at1 c s.data.toList<s.data.toList.length from h)] at IL
  have HI:=Lib.hid IL
  clear IL h
  go_enter Tryz.func75,Tryz.ntmps75
  go_wp2_with fail
  refine (Tryz.stringslite_Index_one s c _).mono ?_
  rintro e w1 ⟨rfl,hw⟩
  subst hw
  rw [HI.out]
  go_wp2
  go_ret3
  exact ⟨by rw [e1.out,e2.out,e3.out];rfl,Below.refl _ _⟩
set_option maxRecDepth 100000 in
set_option maxHeartbeats 2000000 in
theorem strcut_any (s:ByteArray) (c:UInt8) (w:World) (hs:s.size≤140737488355328) :
 Calls Tryz.prog 32 #[.string s,.string ⟨#[c]⟩] w fun e w'=>e=.returned (.tuple #[.string (ctA c s),.string (ctB c s),.bool (ctF c s)])∧Below w.heap.size w w':=by
 go_enter Tryz.func32,Tryz.ntmps32
 go_wp2_with fail
 refine (litecut_any s c _ hs).mono ?_
 rintro e w1 ⟨rfl,hb⟩
 go_wp2
 go_ret3
 exact ⟨rfl,hb⟩
set_option maxRecDepth 100000 in
set_option maxHeartbeats 2000000 in
theorem isKey_any (s:ByteArray) (w:World) (hs:s.size≤140737488355328) :
 Calls Tryz.prog 109 #[.string s] w fun e w'=>e=.returned (.bool (keB s.data.toList))∧w'=w:=by
 by_cases h1:s.size<1
 ·have E:=Lib.hid (ke_long (l:=s.data.toList) (by show ¬ (1≤s.size∧s.size≤12);omega))
  go_enter Tryz.func109,Tryz.ntmps109
  go_wp2
  go_ret
  exact ⟨ret_bool E.out.symm,rfl⟩
 by_cases h2:12<s.size
 ·have E:=Lib.hid (ke_long (l:=s.data.toList) (by show ¬ (1≤s.size∧s.size≤12);omega))
  go_enter Tryz.func109,Tryz.ntmps109
  go_wp2
  go_ret
  exact ⟨ret_bool E.out.symm,rfl⟩
 go_enter Tryz.func109,Tryz.ntmps109
 go_wp2
 go_loop [14] (fun i=>∃ k:Nat,k≤s.size∧i=.int .i64 k∧∀ j (hj:j<s.data.toList.length),j<k→65≤s.data.toList[j].toNat∧s.data.toList[j].toNat≤90) (fun i=>s.size - (intOf i).toNat)
 case atStart=>exact ⟨0,Nat.zero_le _,rfl,fun j _ h=>absurd h (Nat.not_lt_zero _)⟩
 case round=>
  obtain ⟨k,hk,rfl,hA⟩:=hrel
  have HA:=Lib.hid hA
  clear hA
  by_cases hlt:k<s.size
  ·by_cases ha:65≤s[k].toNat
   ·by_cases hz:s[k].toNat≤90
    ·have NX:=Lib.hid (show ∀ j (hj:j<s.data.toList.length),j<k + 1→65≤s.data.toList[j].toNat∧s.data.toList[j].toNat≤90 from fun j hj h=>by
      rcases Nat.lt_or_ge j k with q | q
      ·exact HA.out j hj q
      ·obtain rfl:j=k:=by omega
       exact ⟨ha,hz⟩)
     have p1:¬ (s[k].toNat:Int)<65:=by omega
     have p2:¬ (90:Int)<(s[k].toNat:Int):=by omega
     clear ha hz
     go_wp2
     go_round
     case rel=>exact ⟨k + 1,by omega,by go_num,NX.out⟩
     case measure=>simp [intOf];omega
    ·have E:=Lib.hid (ke_bad (l:=s.data.toList) k hlt (fun q=>hz q.2))
     have p1:¬ (s[k].toNat:Int)<65:=by omega
     have p2:(90:Int)<(s[k].toNat:Int):=by omega
     clear ha hz
     go_wp2
     go_ret
     exact ⟨ret_bool E.out.symm,rfl⟩
   ·have E:=Lib.hid (ke_bad (l:=s.data.toList) k hlt (fun q=>ha q.1))
    have p1:(s[k].toNat:Int)<65:=by omega
    clear ha
    go_wp2
    go_ret
    exact ⟨ret_bool E.out.symm,rfl⟩
  ·have E:=Lib.hid (ke_all (l:=s.data.toList) (by show 1≤s.size;omega) (by show s.size≤12;omega) (fun j hj=>HA.out j hj (by have:s.data.toList.length=s.size:=rfl;omega)))
   go_wp2
   go_ret
   exact ⟨ret_bool E.out.symm,rfl⟩
def paB (s:ByteArray):Bool:=ctF 58 s && keB (ctA 58 s).data.toList
def paK (s:ByteArray):ByteArray:=if paB s then ctA 58 s else ⟨#[]⟩
def paV (s:ByteArray):ByteArray:=if paB s then ctB 58 s else ⟨#[]⟩
def paF (s:ByteArray):Int:=if paB s then 0 else 2
theorem ctA_le (c:UInt8) (s:ByteArray):(ctA c s).size≤s.size:=by
 unfold ctA
 split
 ·simp;omega
 ·exact Nat.le_refl _
set_option maxRecDepth 100000 in
set_option maxHeartbeats 2000000 in
theorem pair_any (s:ByteArray) (w:World) (hs:s.size≤140737488355328) :
 Calls Tryz.prog 79 #[.string s] w fun e w'=>e=.returned (.tuple #[.string (paK s),.string (paV s),fault (paF s)])∧Below w.heap.size w w':=by
 have la:=ctA_le 58 s
 rcases hf:ctF 58 s with _ | _
 ·have hp:paB s=false:=by unfold paB;rw [hf];rfl
  have e1:=Lib.hid (show paK s=⟨#[]⟩ by unfold paK;rw [hp];rfl)
  have e2:=Lib.hid (show paV s=⟨#[]⟩ by unfold paV;rw [hp];rfl)
  have e3:=Lib.hid (show paF s=2 by unfold paF;rw [hp];rfl)
  clear hp
  go_enter Tryz.func79,Tryz.ntmps79
  go_wp2_with fail
  refine (strcut_any s 58 _ hs).mono ?_
  rintro e w1 ⟨rfl,hb⟩
  go_wp2
  go_ret3
  exact ⟨by rw [e1.out,e2.out,e3.out];rfl,hb⟩
 ·rcases hk:keB (ctA 58 s).data.toList with _ | _
  ·have hp:paB s=false:=by unfold paB;rw [hf,hk];rfl
   have e1:=Lib.hid (show paK s=⟨#[]⟩ by unfold paK;rw [hp];rfl)
   have e2:=Lib.hid (show paV s=⟨#[]⟩ by unfold paV;rw [hp];rfl)
   have e3:=Lib.hid (show paF s=2 by unfold paF;rw [hp];rfl)
   clear hp
   go_enter Tryz.func79,Tryz.ntmps79
   go_wp2_with fail
   refine (strcut_any s 58 _ hs).mono ?_
   rintro e w1 ⟨rfl,hb⟩
   go_wp2_with fail
   refine (isKey_any (ctA 58 s) _ (Nat.le_trans la hs)).mono ?_
   rintro e w2 ⟨rfl,hw⟩
   subst hw
   go_wp2
   go_ret3
   exact ⟨by rw [e1.out,e2.out,e3.out];rfl,hb⟩
  ·have hp:paB s=true:=by unfold paB;rw [hf,hk];rfl
   have e1:=Lib.hid (show paK s=ctA 58 s by unfold paK;rw [hp];rfl)
   have e2:=Lib.hid (show paV s=ctB 58 s by unfold paV;rw [hp];rfl)
   have e3:=Lib.hid (show paF s=0 by unfold paF;rw [hp];rfl)
   clear hp
   go_enter Tryz.func79,Tryz.ntmps79
   go_wp2_with fail
   refine (strcut_any s 58 _ hs).mono ?_
   rintro e w1 ⟨rfl,hb⟩
   go_wp2_with fail
   refine (isKey_any (ctA 58 s) _ (Nat.le_trans la hs)).mono ?_
   rintro e w2 ⟨rfl,hw⟩
   subst hw
   go_wp2
   go_ret3
   exact ⟨by rw [e1.out,e2.out,e3.out];rfl,hb⟩
end Go.Proofs.YtcadomjkjoiakaaGreatDoor
