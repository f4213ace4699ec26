/-
  What is proved here: what the document's Rule answers of a rule whose numbers and lengths are right and of whose weekdays none has a number (a contract over the translation).
-/
import Derived.Test.YtoncfgfjdlgfcaaGreatDoorRG
namespace Go.Proofs.YtoncfgfjdlgfcaaGreatDoor
open Go.RowKit Cal Txt
set_option maxRecDepth 100000 in
set_option maxHeartbeats 8000000 in
theorem refRule_5F (r:Rl) (vm vd vw vp:Value) (w:World) (hm:Ints w vm r.months) (hd:Ints w vd r.days) (hw:Nths w vw r.weeks) (hp:Ints w vp r.pick)
 (h1:1≤r.freq) (h2:r.freq≤4) (h3:1≤r.every) (h4:r.every≤50) (h5:0≤r.count) (h6:r.count≤200) (h7:0≤r.till) (h8:r.till≤109573) (hb:(r.count != 0)=false∨((r.count != 0)=true∧(r.till != 0)=false))
 (l1:(r.months.length:Int)≤12) (l2:(r.days.length:Int)≤31) (l3:(r.weeks.length:Int)≤20) (l4:(r.pick.length:Int)≤20)
 (hnb:anyN r.weeks=false) :
 Calls Tryz.prog 51 #[.agg #[.int .i64 r.freq,.int .i64 r.every,.int .i64 r.count,.int .i64 r.till,vm,vd,vw,vp]] w fun e w'=>e=.returned (.int .i64 (rf5 r))∧Below w.heap.size w w':=by
 have HNB:=Lib.hid hnb
 clear hnb
 have HM:=Lib.hid hm
 have HD:=Lib.hid hd
 have HW:=Lib.hid hw
 have HP:=Lib.hid hp
 obtain ⟨am,cm,rfl,x1⟩:=hm
 obtain ⟨ad,cd,rfl,x2⟩:=hd
 obtain ⟨aw,cw,rfl,x3⟩:=hw
 obtain ⟨ap,cp,rfl,x4⟩:=hp
 clear x1 x2 x3 x4
 have B0:Below w.heap.size w (w.alloc (.cells #[.int .i64 r.freq,.int .i64 r.every,.int .i64 r.count,.int .i64 r.till,.slice am r.months.length cm,.slice ad r.days.length cd,.slice aw r.weeks.length cw,.slice ap r.pick.length cp] 29)):=(Below.refl _ _).alloc (Nat.le_refl _) _
 have HB:=Lib.hid B0
 have HR:=Lib.hid (RBox.new w r.freq r.every r.count r.till (.slice am r.months.length cm) (.slice ad r.days.length cd) (.slice aw r.weeks.length cw) (.slice ap r.pick.length cp) 29)
 clear B0
 go_enter Tryz.func51,Tryz.ntmps51
 go_upto_region 3 with fail
 go_cut [57] from 12 to 251 (fun s wx=>s=.bool false∧wx=w.alloc (.cells #[.int .i64 r.freq,.int .i64 r.every,.int .i64 r.count,.int .i64 r.till,.slice am r.months.length cm,.slice ad r.days.length cd,.slice aw r.weeks.length cw,.slice ap r.pick.length cp] 29))
 case first=>
  rcases hb with b | ⟨b,b'⟩
  all_goals
   as_aux_lemma=>
    go_wp2_with fail
    go_meet
    case rel=>exact ⟨rfl,rfl⟩
 case rest=>
 clear hb
 obtain ⟨rfl,rfl⟩:=hcut
 go_wp2_with fail
 refine (within_any _ _ 1 12 _ (HM.out.on HB.out) (by omega)).mono ?_
 rintro e w1 ⟨rfl,hx⟩
 subst hx
 go_wp2_with fail
 refine (within_any _ _ (-31) 31 _ (HD.out.on HB.out) (by omega)).mono ?_
 rintro e w1 ⟨rfl,hx⟩
 subst hx
 go_wp2_with fail
 refine (within_any _ _ (-31) 31 _ (HP.out.on HB.out) (by omega)).mono ?_
 rintro e w1 ⟨rfl,hx⟩
 subst hx
 rcases hI:ok3 r with _ | _
 ·have hz:(!inB 1 12 r.months)=true∨(inB 1 12 r.months=true∧(!inB (-31) 31 r.days)=true)∨(inB 1 12 r.months=true∧inB (-31) 31 r.days=true∧(!inB (-31) 31 r.pick)=true):=by
   unfold ok3 at hI
   rcases e1:inB 1 12 r.months with _ | _ <;> rcases e2:inB (-31) 31 r.days with _ | _ <;> rcases e3:inB (-31) 31 r.pick with _ | _ <;> simp_all
  have Z:=Lib.hid (rf5_in (r:=r) (by rcases hz with h | h | h;exact Or.inl h;exact Or.inr (Or.inl h.2);exact Or.inr (Or.inr h.2.2)))
  clear hI
  rcases hz with c | ⟨c,d⟩ | ⟨c,d,e⟩
  all_goals
   go_wp2
   go_ret
   exact ⟨ret_int Z.out.symm,HB.out⟩
 have i1:inB 1 12 r.months=true:=by unfold ok3 at hI;simp at hI;exact hI.1.1
 have i2:inB (-31) 31 r.days=true:=by unfold ok3 at hI;simp at hI;exact hI.1.2
 have i3:inB (-31) 31 r.pick=true:=by unfold ok3 at hI;simp at hI;exact hI.2
 have OK3:=Lib.hid hI
 clear hI
 go_wp2_with fail
 clear i1 i2 i3
 go_loopw [6,7] (fun n i wr=>∃ (k:Nat) (nb:Bool),k≤r.weeks.length∧i=.int .i64 k∧n=.bool nb∧nb=anyN (r.weeks.take k)∧
  RBox wr w.heap.size r.freq r.every r.count r.till (.slice am r.months.length cm) (.slice ad r.days.length cd) (.slice aw r.weeks.length cw) (.slice ap r.pick.length cp)∧Below w.heap.size w wr∧
  ∀ j,j<k→1≤(r.weeks.getD j (0,0)).2∧(r.weeks.getD j (0,0)).2≤7∧-5≤(r.weeks.getD j (0,0)).1∧(r.weeks.getD j (0,0)).1≤5) (fun _ i _=>r.weeks.length - (intOf i).toNat)
 case atStart=>exact ⟨0,false,Nat.zero_le _,rfl,rfl,rfl,HR.out,HB.out,fun j hj=>by omega⟩
 case round=>
  clear HR HB
  obtain ⟨k,nb,hk,rfl,rfl,hn,hR,hB,hF⟩:=hrel
  have HN:=Lib.hid hn
  have HF:=Lib.hid hF
  clear hn hF
  by_cases hlt:k<r.weeks.length
  ·obtain ⟨a',c',e',hc⟩:=HW.out.on hB
   obtain ⟨rfl,rfl⟩:aw=a'∧cw=c':=by simpa using e'
   rcases hc with hc | ⟨b,off,rfl,hc⟩
   ·rw [hc] at hlt;simp at hlt
   obtain ⟨k1,k2⟩:=hc k hlt
   obtain ⟨X,hX⟩:∃ X,X=(r.weeks.getD k (0,0)).1:=⟨_,rfl⟩
   obtain ⟨Y,hY⟩:∃ Y,Y=(r.weeks.getD k (0,0)).2:=⟨_,rfl⟩
   rw [← hX] at k1
   rw [← hY] at k2
   have HX:=Lib.hid hX
   have HY:=Lib.hid hY
   clear hX hY hc e'
   obtain ⟨R0,R1,R2,R3,R4,R5,R6,R7⟩:=id hR
   have Rl:=hR.lt
   go_wp2_with fail
   all_goals first
    | (go_ret
       exact ⟨ret_int (rf5_wk k hlt (by rw [← HX.out,← HY.out];omega)).symm,hB.alloc hB.size _⟩)
    | (go_roundw
       case rel=>
        refine ⟨k + 1,_,by omega,by go_num,rfl,?_,hR.on ((Below.refl _ _).alloc (Nat.le_refl _) _),hB.alloc hB.size _,fun j hj=>?_⟩
        ·rw [anyN_take _ _ hlt,← HN.out,← HX.out]
         first | exact nb_t ‹_› | exact nb_f ‹_› _
        ·rcases Nat.lt_or_ge j k with g | g
         ·exact HF.out j g
         ·obtain rfl:j=k:=by omega
          rw [← HX.out,← HY.out];omega
       case measure=>simp [intOf];omega)
  ·have OKW:Hid (wkB r.weeks=true):=Lib.hid (wkB_iff.2 (fun j hj=>HF.out j (by omega)))
   have HN2:Hid (nb=anyN r.weeks):=Lib.hid (by rw [HN.out,List.take_of_length_le (by omega)])
   clear HF HN
   obtain ⟨R0,R1,R2,R3,R4,R5,R6,R7⟩:=id hR
   have Rl:=hR.lt
   go_wp2_with fail
   clear R0 R1 R2 R3 R4 R5 R6 R7 Rl
   refine (rises_any _ _ _ (HM.out.on hB) (by omega)).mono ?_
   rintro e w2 ⟨rfl,hx⟩
   have hR2:=hR.on hx
   have hB2:=hB.trans (hx.mono hB.size)
   clear hx hR hB
   obtain ⟨R0,R1,R2,R3,R4,R5,R6,R7⟩:=id hR2
   have Rl:=hR2.lt
   go_wp2_with fail
   clear R0 R1 R2 R3 R4 R5 R6 R7 Rl
   refine (rises_any _ _ _ (HD.out.on hB2) (by omega)).mono ?_
   rintro e w3 ⟨rfl,hx⟩
   have hR3:=hR2.on hx
   have hB3:=hB2.trans (hx.mono hB2.size)
   clear hx hR2 hB2
   obtain ⟨R0,R1,R2,R3,R4,R5,R6,R7⟩:=id hR3
   have Rl:=hR3.lt
   go_wp2_with fail
   clear R0 R1 R2 R3 R4 R5 R6 R7 Rl
   refine (rises_any _ _ _ (HP.out.on hB3) (by omega)).mono ?_
   rintro e w4 ⟨rfl,hx⟩
   have hR4:=hR3.on hx
   have hB4:=hB3.trans (hx.mono hB3.size)
   clear hx hR3 hB3
   have HR4:=Lib.hid hR4
   have HB4:=Lib.hid hB4
   clear hR4 hB4
   go_wp2_with fail
   go_loopw [3,9] (fun n i wr=>∃ (j:Nat) (mb:Bool),1≤j∧(j≤r.weeks.length∨j=1)∧i=.int .i64 j∧n=.bool mb∧mb=(risB r.months && wrK r.weeks j)∧
    RBox wr w.heap.size r.freq r.every r.count r.till (.slice am r.months.length cm) (.slice ad r.days.length cd) (.slice aw r.weeks.length cw) (.slice ap r.pick.length cp)∧Below w.heap.size w wr) (fun _ i _=>r.weeks.length - (intOf i).toNat)
   case atStart=>exact ⟨1,_,by omega,Or.inr rfl,rfl,rfl,by rw [wrK_one,Bool.and_true],HR4.out,HB4.out⟩
   case round=>
    clear HR4 HB4
    obtain ⟨j,mb,j1,hj,rfl,rfl,hmb,hR,hB⟩:=hrel
    have HMB:=Lib.hid hmb
    clear hmb
    by_cases hlt:j<r.weeks.length
    ·obtain ⟨a',c',e',hc⟩:=HW.out.on hB
     obtain ⟨rfl,rfl⟩:aw=a'∧cw=c':=by simpa using e'
     rcases hc with hc | ⟨b,off,rfl,hc⟩
     ·rw [hc] at hlt;simp at hlt
     obtain ⟨k1,k2⟩:=hc j hlt
     obtain ⟨k3,k4⟩:=hc (j - 1) (by omega)
     obtain ⟨X,hX⟩:∃ X,X=(r.weeks.getD j (0,0)).1:=⟨_,rfl⟩
     obtain ⟨Y,hY⟩:∃ Y,Y=(r.weeks.getD j (0,0)).2:=⟨_,rfl⟩
     obtain ⟨U,hU⟩:∃ U,U=(r.weeks.getD (j - 1) (0,0)).1:=⟨_,rfl⟩
     obtain ⟨V,hV⟩:∃ V,V=(r.weeks.getD (j - 1) (0,0)).2:=⟨_,rfl⟩
     rw [← hX] at k1
     rw [← hY] at k2
     rw [← hU] at k3
     rw [← hV] at k4
     have EQ:Hid ((risB r.months && wrK r.weeks (j + 1))=(mb && decide (V<Y∨(V=Y∧U<X)))):=Lib.hid (by
      rw [wrK_next _ _ j1,← Bool.and_assoc,← HMB.out,hX,hY,hU,hV])
     clear hX hY hU hV hc e' hj HMB
     obtain ⟨R0,R1,R2,R3,R4,R5,R6,R7⟩:=id hR
     have Rl:=hR.lt
     have bl:b<wr.heap.size:=by
      rcases Nat.lt_or_ge b wr.heap.size with q | q
      ·exact q
      ·simp [World.cell?,Array.getElem?_eq_none q] at k1
     have i1:(0:Int)≤(j:Int) - 1:=by omega
     have i2:(j:Int) - 1<(r.weeks.length:Int):=by omega
     have i3:((j:Int) - 1).toNat=j - 1:=by omega
     rcases mb with _ | _
     case' false=>
      have EV:=Lib.hid (EQ.out.trans (show (false && decide (V<Y∨(V=Y∧U<X)))=false from rfl))
     case' true=>
      rcases (by have e:(V == Y)=false↔¬ V=Y:=by simp
                 have e':(V == Y)=true↔V=Y:=by simp
                 rw [e,e'];omega:V<Y∨(¬ V<Y∧(V == Y)=false)∨(¬ V<Y∧(V == Y)=true∧U<X)∨(¬ V<Y∧(V == Y)=true∧¬ U<X)) with g | ⟨g,g'⟩ | ⟨g,g',g''⟩ | ⟨g,g',g''⟩
      case' inl=>
       have EV:=Lib.hid (EQ.out.trans (show (true && decide (V<Y∨(V=Y∧U<X)))=true by simp [g]))
      case' inr.inl=>
       have EV:=Lib.hid (EQ.out.trans (show (true && decide (V<Y∨(V=Y∧U<X)))=false by simp at g';simp [g'];omega))
      case' inr.inr.inl=>
       have EV:=Lib.hid (EQ.out.trans (show (true && decide (V<Y∨(V=Y∧U<X)))=true by simp at g';simp [g',g'']))
      case' inr.inr.inr=>
       have EV:=Lib.hid (EQ.out.trans (show (true && decide (V<Y∨(V=Y∧U<X)))=false by simp at g';simp [g'];omega))
     all_goals
      clear EQ
      go_wp2_with fail
      go_roundw
      case rel=>exact ⟨j + 1,_,by omega,Or.inl (by omega),by go_num,rfl,EV.out.symm,hR.on (((Below.refl _ _).alloc (Nat.le_refl _) _).alloc (by simp) _),(hB.alloc hB.size _).alloc (by have:=hB.size;simp;omega) _⟩
      case measure=>simp [intOf];omega
    ·have HMB2:Hid (mb=(risB r.months && wriB r.weeks)):=Lib.hid (by rw [HMB.out,wrK_end _ _ hlt hj])
     clear HMB hj
     obtain ⟨R0,R1,R2,R3,R4,R5,R6,R7⟩:=id hR
     have Rl:=hR.lt
     rcases h4:ok4 r with _ | _
     ·have Z:=Lib.hid (rf5_clash OK3.out OKW.out h4)
      have hz:mb=false∨(mb=true∧risB r.days=false)∨(mb=true∧risB r.days=true∧risB r.pick=false):=by
       unfold ok4 at h4
       rw [← HMB2.out] at h4
       exact three_no h4
      clear h4
      rcases hz with c | ⟨c,d⟩ | ⟨c,d,e⟩
      all_goals
       go_wp2
       go_ret
       exact ⟨ret_int Z.out.symm,hB⟩
     ·have OK4:=Lib.hid h4
      have hz:mb=true∧risB r.days=true∧risB r.pick=true:=by
       unfold ok4 at h4
       rw [← HMB2.out] at h4
       exact three_yes h4
      clear h4
      obtain ⟨z1,z2,z3⟩:=hz
      have HBB:=Lib.hid hB
      clear HMB2
      go_upto_region 31 with fail
      clear z1 z2 z3
      go_cut [3,4,5,6,251] from 12 to 251 (fun _ _ _ _ sv wx=>sv=.bool (oddB r)∧Below w.heap.size w wx)
      case first=>
       obtain rfl:nb=false:=by rw [HN2.out,HNB.out]
       have HA:Hid (¬ (true=anyN r.weeks∧r.freq≤2)):=Lib.hid (fun q=>by have:=q.1;rw [← HN2.out] at this;cases this)
       by_cases d0:(0:Int)<r.days.length
       ·rcases e2:(r.freq == 2) with _ | _
        ·have HBd:Hid (¬ (0<r.days.length∧r.freq=2)):=Lib.hid (fun q=>by simp [q.2] at e2)
         rcases e4:(r.freq == 4) with _ | _
         ·have HCd:Hid (¬ (r.freq=4∧r.months.length=0∧0<r.days.length + r.weeks.length)):=Lib.hid (fun q=>by simp [q.1] at e4)
          by_cases p0:(0:Int)<r.pick.length
          ·have su:((r.months.length:Int) + r.days.length + r.weeks.length == 0)=false:=by simp;omega
           have EV:Hid (oddB r=false):=Lib.hid (odd_f HA.out HBd.out HCd.out (fun q=>by omega))
           as_aux_lemma=>
            go_wp2_with fail
            go_meet
            case rel=>exact ⟨congrArg Value.bool EV.out.symm,HBB.out⟩
          ·have EV:Hid (oddB r=false):=Lib.hid (odd_f HA.out HBd.out HCd.out (fun q=>by have:=q.1;omega))
           as_aux_lemma=>
            go_wp2_with fail
            go_meet
            case rel=>exact ⟨congrArg Value.bool EV.out.symm,HBB.out⟩
         ·rcases m0:((r.months.length:Int) == 0) with _ | _
          ·have HCd:Hid (¬ (r.freq=4∧r.months.length=0∧0<r.days.length + r.weeks.length)):=Lib.hid (fun q=>by simp [q.2.1] at m0)
           by_cases p0:(0:Int)<r.pick.length
           ·have su:((r.months.length:Int) + r.days.length + r.weeks.length == 0)=false:=by simp;omega
            have EV:Hid (oddB r=false):=Lib.hid (odd_f HA.out HBd.out HCd.out (fun q=>by omega))
            as_aux_lemma=>
             go_wp2_with fail
             go_meet
             case rel=>exact ⟨congrArg Value.bool EV.out.symm,HBB.out⟩
           ·have EV:Hid (oddB r=false):=Lib.hid (odd_f HA.out HBd.out HCd.out (fun q=>by have:=q.1;omega))
            as_aux_lemma=>
             go_wp2_with fail
             go_meet
             case rel=>exact ⟨congrArg Value.bool EV.out.symm,HBB.out⟩
          ·have dw:(0:Int)<r.days.length + r.weeks.length:=by omega
           have EV:Hid (oddB r=true):=Lib.hid (odd_t3 (by simpa using e4) (by have:=beq_iff_eq.1 m0;omega) (by omega))
           as_aux_lemma=>
            go_wp2_with fail
            go_meet
            case rel=>exact ⟨congrArg Value.bool EV.out.symm,HBB.out⟩
        ·have EV:Hid (oddB r=true):=Lib.hid (odd_t2 (by omega) (by simpa using e2))
         as_aux_lemma=>
          go_wp2_with fail
          go_meet
          case rel=>exact ⟨congrArg Value.bool EV.out.symm,HBB.out⟩
       ·have HBd:Hid (¬ (0<r.days.length∧r.freq=2)):=Lib.hid (fun q=>by have:=q.1;omega)
        rcases e4:(r.freq == 4) with _ | _
        ·have HCd:Hid (¬ (r.freq=4∧r.months.length=0∧0<r.days.length + r.weeks.length)):=Lib.hid (fun q=>by simp [q.1] at e4)
         by_cases p0:(0:Int)<r.pick.length
         ·rcases su:((r.months.length:Int) + r.days.length + r.weeks.length == 0) with _ | _
          ·have su':¬ (r.months.length:Int) + r.days.length + r.weeks.length=0:=by simpa using su
           have EV:Hid (oddB r=false):=Lib.hid (odd_f HA.out HBd.out HCd.out (fun q=>by omega))
           clear su'
           as_aux_lemma=>
            go_wp2_with fail
            go_meet
            case rel=>exact ⟨congrArg Value.bool EV.out.symm,HBB.out⟩
          ·have su':(r.months.length:Int) + r.days.length + r.weeks.length=0:=by simpa using su
           have EV:Hid (oddB r=true):=Lib.hid (odd_t4 (by omega) (by omega))
           clear su'
           as_aux_lemma=>
            go_wp2_with fail
            go_meet
            case rel=>exact ⟨congrArg Value.bool EV.out.symm,HBB.out⟩
         ·have EV:Hid (oddB r=false):=Lib.hid (odd_f HA.out HBd.out HCd.out (fun q=>by have:=q.1;omega))
          as_aux_lemma=>
           go_wp2_with fail
           go_meet
           case rel=>exact ⟨congrArg Value.bool EV.out.symm,HBB.out⟩
        ·rcases m0:((r.months.length:Int) == 0) with _ | _
         ·have HCd:Hid (¬ (r.freq=4∧r.months.length=0∧0<r.days.length + r.weeks.length)):=Lib.hid (fun q=>by simp [q.2.1] at m0)
          by_cases p0:(0:Int)<r.pick.length
          ·rcases su:((r.months.length:Int) + r.days.length + r.weeks.length == 0) with _ | _
           ·have su':¬ (r.months.length:Int) + r.days.length + r.weeks.length=0:=by simpa using su
            have EV:Hid (oddB r=false):=Lib.hid (odd_f HA.out HBd.out HCd.out (fun q=>by omega))
            clear su'
            as_aux_lemma=>
             go_wp2_with fail
             go_meet
             case rel=>exact ⟨congrArg Value.bool EV.out.symm,HBB.out⟩
           ·have su':(r.months.length:Int) + r.days.length + r.weeks.length=0:=by simpa using su
            have EV:Hid (oddB r=true):=Lib.hid (odd_t4 (by omega) (by omega))
            clear su'
            as_aux_lemma=>
             go_wp2_with fail
             go_meet
             case rel=>exact ⟨congrArg Value.bool EV.out.symm,HBB.out⟩
          ·have EV:Hid (oddB r=false):=Lib.hid (odd_f HA.out HBd.out HCd.out (fun q=>by have:=q.1;omega))
           as_aux_lemma=>
            go_wp2_with fail
            go_meet
            case rel=>exact ⟨congrArg Value.bool EV.out.symm,HBB.out⟩
         ·by_cases dw:(0:Int)<r.days.length + r.weeks.length
          ·have EV:Hid (oddB r=true):=Lib.hid (odd_t3 (by simpa using e4) (by have:=beq_iff_eq.1 m0;omega) (by omega))
           as_aux_lemma=>
            go_wp2_with fail
            go_meet
            case rel=>exact ⟨congrArg Value.bool EV.out.symm,HBB.out⟩
          ·have HCd:Hid (¬ (r.freq=4∧r.months.length=0∧0<r.days.length + r.weeks.length)):=Lib.hid (fun q=>by have:=q.2.2;omega)
           by_cases p0:(0:Int)<r.pick.length
           ·have su:((r.months.length:Int) + r.days.length + r.weeks.length == 0)=true:=by have m0':=beq_iff_eq.1 m0;simp;omega
            have EV:Hid (oddB r=true):=Lib.hid (odd_t4 (by omega) (by have m0':=beq_iff_eq.1 m0;omega))
            as_aux_lemma=>
             go_wp2_with fail
             go_meet
             case rel=>exact ⟨congrArg Value.bool EV.out.symm,HBB.out⟩
           ·have EV:Hid (oddB r=false):=Lib.hid (odd_f HA.out HBd.out HCd.out (fun q=>by have:=q.1;omega))
            as_aux_lemma=>
             go_wp2_with fail
             go_meet
             case rel=>exact ⟨congrArg Value.bool EV.out.symm,HBB.out⟩
      case rest=>
      obtain ⟨rfl,hBc⟩:=hcut
      rcases ho:oddB r with _ | _
      ·have Z:=Lib.hid (rf5_fine OK3.out OKW.out OK4.out ho)
       clear ho
       go_wp2
       go_ret
       exact ⟨ret_int Z.out.symm,hBc⟩
      ·have Z:=Lib.hid (rf5_odd OK3.out OKW.out OK4.out ho)
       clear ho
       go_wp2
       go_ret
       exact ⟨ret_int Z.out.symm,hBc⟩
end Go.Proofs.YtoncfgfjdlgfcaaGreatDoor
