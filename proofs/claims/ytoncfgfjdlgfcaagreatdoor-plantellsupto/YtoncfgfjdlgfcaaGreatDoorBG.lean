/-
  Texts of our own that serve the card of this claim, joined into one.
-/
import Derived.Test.YtoncfgfjdlgfcaaGreatDoorPer
import Derived.Test.YtoncfgfjdlgfcaaGreatDoorRF
import Derived.Test.YtoncfgfjdlgfcaaGreatDoorBB
import Derived.Test.YtoncfgfjdlgfcaaGreatDoorBF
namespace Go.Proofs.YtoncfgfjdlgfcaaGreatDoor
open Cal Txt
def fitD (q:Int × Int) (n:Int):Bool:=q.2 == wd n && (q.1 == 0 || q.1 == (nfst n).1 || q.1 == (nlst n).1)
theorem fit_and (u a b c:Bool):((a && u) || (b && u) || (c && u))=(u && (a || b || c)):=by cases u <;> cases a <;> cases b <;> cases c <;> rfl
theorem fitD_fitB (q:Int × Int) (n:Int):fitD q n=fitB q n:=by unfold fitD fitB;exact (fit_and _ _ _ _).symm
def restD (r:Rl) (s n:Int):Bool:=if r.freq=1 then true else if r.freq=2 then wd n == wd s else da n == da s && (decide (r.freq=3) || decide (0<r.months.length) || mo n == mo s)
def wantD (r:Rl) (s n:Int):Bool:=
 (r.months.length == 0 || r.months.contains (mo n)) && (r.days.length == 0 || r.days.contains (da n) || r.days.contains (da n - ml (yr n) (mo n) - 1)) && (r.weeks.length == 0 || r.weeks.any (fitD · n)) && (decide (0<r.days.length) || decide (0<r.weeks.length) || restD r s n)
theorem beq_swap (a b:Int):(a == b)=(b == a):=by
 by_cases h:a=b
 ·rw [h]
 ·have h':¬ b=a:=fun e=>h e.symm
  rw [beq_eq_false_iff_ne.2 h,beq_eq_false_iff_ne.2 h']
theorem one_has (x y:Int):([x]:List Int).contains y=(y == x):=by
 rw [List.contains_eq_mem]
 by_cases h:y=x
 ·simp [h]
 ·simp [h]
theorem want_ask {r:Rl} {s n:Int} (f1:1≤r.freq) (f4:r.freq≤4) (s1:1≤s) (s2:s≤109573) (n1:1≤n) (n2:n≤109573):wantD r s n=askB (comp r s) n:=by
 have W:r.weeks.any (fitD · n)=r.weeks.any (fitB · n):=by congr 1;funext q;exact fitD_fitB q n
 obtain ⟨_,_,_,_,a1,a2⟩:=date_ok s1 s2
 obtain ⟨_,_,_,_,b1,b2⟩:=date_ok n1 n2
 unfold wantD
 rw [W]
 by_cases h:0<r.days.length∨0<r.weeks.length
 ·have e:comp r s=r:=if_pos h
  have k:(decide (0<r.days.length) || decide (0<r.weeks.length) || restD r s n)=true:=by
   rcases h with h | h
   ·rw [decide_eq_true h];rfl
   ·rw [decide_eq_true h,Bool.or_true];rfl
  rw [e,k,Bool.and_true]
  unfold askB inM onD onW nameB
  rw [← Bool.or_assoc]
 ·have d0:r.days.length=0:=by omega
  have w0:r.weeks.length=0:=by omega
  have k:(decide (0<r.days.length) || decide (0<r.weeks.length) || restD r s n)=restD r s n:=by
   rw [decide_eq_false (by omega),decide_eq_false (by omega)];rfl
  rw [k,show (r.days.length == 0)=true by rw [d0];rfl,show (r.weeks.length == 0)=true by rw [w0];rfl]
  simp only [Bool.true_or,Bool.and_true]
  have neg:¬ da s=da n - ml (yr n) (mo n) - 1:=by omega
  have nm:nameB [da s] (da n) (ml (yr n) (mo n))=(da n == da s):=by
   unfold nameB
   rw [one_has,one_has,beq_eq_false_iff_ne.2 (fun q=>neg q.symm),Bool.or_false]
  rcases fr4 ⟨f1,f4⟩ with hf | hf | hf | hf
  ·have e:comp r s=r:=by unfold comp;rw [if_neg h,if_neg (by omega),if_neg (by omega),if_neg (by omega)]
   rw [e]
   unfold restD askB inM onD onW
   rw [if_pos hf,show (r.days.length == 0)=true by rw [d0];rfl,show (r.weeks.length == 0)=true by rw [w0];rfl]
   simp
  ·have e:comp r s={ r with weeks:=[(0,wd s)] }:=by unfold comp;rw [if_neg h,if_pos hf]
   rw [e]
   unfold restD askB inM onD onW
   rw [if_neg (by omega),if_pos hf]
   show _=((r.months.length == 0 || r.months.contains (mo n)) && (r.days.length == 0 || nameB r.days (da n) (ml (yr n) (mo n))) && (false || ([(0,wd s)]:List (Int × Int)).any (fitB · n)))
   rw [show (r.days.length == 0)=true by rw [d0];rfl]
   simp only [List.any_cons,List.any_nil,Bool.or_false,Bool.true_or,Bool.and_true,Bool.false_or]
   congr 1
   rw [← fitD_fitB]
   unfold fitD
   show (wd n == wd s)=(wd s == wd n && ((0:Int) == 0 || _ || _))
   simp [beq_swap]
  ·have e:comp r s={ r with days:=[da s] }:=by unfold comp;rw [if_neg h,if_neg (by omega),if_pos hf]
   rw [e]
   unfold restD askB inM onD onW
   rw [if_neg (by omega),if_neg (by omega),decide_eq_true hf]
   show _=((r.months.length == 0 || r.months.contains (mo n)) && (false || nameB [da s] (da n) (ml (yr n) (mo n))) && (r.weeks.length == 0 || r.weeks.any (fitB · n)))
   rw [nm,show (r.weeks.length == 0)=true by rw [w0];rfl]
   simp
  ·by_cases m0:r.months.length=0
   ·have e:comp r s={ r with days:=[da s],months:=[mo s] }:=by unfold comp;rw [if_neg h,if_neg (by omega),if_neg (by omega),if_pos hf,if_pos m0]
    rw [e]
    unfold restD askB inM onD onW
    rw [if_neg (by omega),if_neg (by omega),decide_eq_false (by omega:¬ r.freq=3),decide_eq_false (by omega:¬ 0<r.months.length)]
    show _=((false || ([mo s]:List Int).contains (mo n)) && (false || nameB [da s] (da n) (ml (yr n) (mo n))) && (r.weeks.length == 0 || r.weeks.any (fitB · n)))
    rw [nm,one_has,show (r.weeks.length == 0)=true by rw [w0];rfl,show (r.months.length == 0)=true by rw [m0];rfl]
    simp [Bool.and_comm]
   ·have e:comp r s={ r with days:=[da s],months:=r.months }:=by unfold comp;rw [if_neg h,if_neg (by omega),if_neg (by omega),if_pos hf,if_neg m0]
    rw [e]
    unfold restD askB inM onD onW
    rw [if_neg (by omega),if_neg (by omega),decide_eq_true (by omega:0<r.months.length)]
    show _=((r.months.length == 0 || r.months.contains (mo n)) && (false || nameB [da s] (da n) (ml (yr n) (mo n))) && (r.weeks.length == 0 || r.weeks.any (fitB · n)))
    rw [nm,show (r.weeks.length == 0)=true by rw [w0];rfl]
    simp
end Go.Proofs.YtoncfgfjdlgfcaaGreatDoor
namespace Go.Proofs.YtoncfgfjdlgfcaaGreatDoor
open Go.RowKit Cal
theorem refMonday_any (n:Int) (w:World) (h1:1≤n) (h2:n≤109573) :
 Calls Tryz.prog 189 #[.int .i64 n] w fun e w'=>e=.returned (.int .i64 (mon n))∧w'=w:=by
 go_enter Tryz.func189,Tryz.ntmps189
 go_wp2
 go_ret
 exact ⟨rfl,rfl⟩
end Go.Proofs.YtoncfgfjdlgfcaaGreatDoor
namespace Go.Proofs.YtoncfgfjdlgfcaaGreatDoor
open Go.RowKit Cal Txt
theorem rule_form {w:World} {v:Value} {r:Rl} (h:RuleIn w v r):∃ am ad aw ap cm cd cw cp,v=.agg #[.int .i64 r.freq,.int .i64 r.every,.int .i64 r.count,.int .i64 r.till,.slice am r.months.length cm,.slice ad r.days.length cd,.slice aw r.weeks.length cw,.slice ap r.pick.length cp]:=by
 obtain ⟨vm,vd,vw,vp,rfl,m1,d1,k1,p1⟩:=h
 obtain ⟨am,cm,rfl,_⟩:=m1
 obtain ⟨ad,cd,rfl,_⟩:=d1
 obtain ⟨aw,cw,rfl,_⟩:=k1
 obtain ⟨ap,cp,rfl,_⟩:=p1
 exact ⟨am,ad,aw,ap,cm,cd,cw,cp,rfl⟩
def BgA (o:Option (Int × Int)) (e:Ending):Prop:=
 ∃ (n m:Int) (b:Bool),e=.returned (.tuple #[.int .i64 n,.int .i64 m,.bool b])∧((o=none∧b=false)∨(b=true∧o=some (n,min m 109573)))
theorem cutL_le (f n:Int):(cutL f n=none∧decide (f≤109573)=false)∨(decide (f≤109573)=true∧cutL f n=some (f,min (f + n - 1) 109573)):=by
 unfold cutL
 by_cases h:109573<f
 ·exact Or.inl ⟨if_pos h,decide_eq_false (by omega)⟩
 ·exact Or.inr ⟨decide_eq_true (by omega),if_neg h⟩
theorem pE_is {r:Rl} {s k:Int} (h1:rf r=0) (h2:0≤k∧k≤109573) (h3:1≤s∧s≤109573):pE r s k=pEnds r.freq r.every s k:=if_pos ⟨h1,h2,h3⟩
set_option maxRecDepth 100000 in
set_option maxHeartbeats 4000000 in
theorem refBegin_any (r:Rl) (v:Value) (s k:Int) (w:World) (hv:RuleIn w v r) (hz:rf r=0) (s1:1≤s) (s2:s≤109573) :
 Calls Tryz.prog 152 #[v,.int .i64 s,.int .i64 k] w fun e w'=>BgA (pE r s k) e∧Below w.heap.size w w':=by
 obtain ⟨am,ad,aw,ap,cm,cd,cw,cp,rfl⟩:=rule_form hv
 have B0:=(Below.refl w.heap.size w).alloc (Nat.le_refl _) (.cells #[.int .i64 r.freq,.int .i64 r.every,.int .i64 r.count,.int .i64 r.till,.slice am r.months.length cm,.slice ad r.days.length cd,.slice aw r.weeks.length cw,.slice ap r.pick.length cp] 29)
 have HR:=Lib.hid (RBox.new w r.freq r.every r.count r.till (.slice am r.months.length cm) (.slice ad r.days.length cd) (.slice aw r.weeks.length cw) (.slice ap r.pick.length cp) 29)
 have HB:=Lib.hid B0
 clear B0 hv
 obtain ⟨⟨f1,f4⟩,e1,e50⟩:=rf_nums hz
 have HZ:=Lib.hid hz
 clear hz
 by_cases hk:0≤k∧k≤109573
 case neg=>
  have HE:Hid (pE r s k=none):=Lib.hid (if_neg (fun q=>hk q.2.1))
  rcases (by omega:k<0∨(0≤k∧109573<k)) with g | ⟨g,g'⟩
  all_goals
   clear hk
   go_enter Tryz.func152,Tryz.ntmps152
   go_wp2
   exact bodyPost_ret (v:=.tuple #[.int .i64 0,.int .i64 0,.bool false]) (by simp [results,Tryz.results152,go_sem]) rfl ⟨⟨0,0,false,rfl,Or.inl ⟨HE.out,rfl⟩⟩,HB.out⟩
 obtain ⟨k0,k1⟩:=hk
 obtain ⟨t0,t1⟩:=st_bd ⟨k0,k1⟩ ⟨e1,e50⟩
 obtain ⟨y1,y2,m1,m2,d1,d2⟩:=date_ok s1 s2
 rcases fr4 ⟨f1,f4⟩ with hf | hf | hf | hf
 ·have HF:=Lib.hid hf
  have HE:Hid (pE r s k=cutL (s + k * r.every) 1):=Lib.hid (by rw [pE_is HZ.out ⟨k0,k1⟩ ⟨s1,s2⟩];unfold pEnds;rw [hf,if_neg (by decide),if_neg (by decide),if_neg (by decide)])
  clear hf
  go_enter Tryz.func152,Tryz.ntmps152
  go_wp2_with fail
  generalize w.alloc (.cells #[.int .i64 r.freq,.int .i64 r.every,.int .i64 r.count,.int .i64 r.till,.slice am r.months.length cm,.slice ad r.days.length cd,.slice aw r.weeks.length cw,.slice ap r.pick.length cp] 29)=W0 at HB HR ⊢
  refine (refDate_yes s _ s1 s2).mono ?_
  rintro e w2 ⟨rfl,hb⟩
  have B2:=HB.out.trans (hb.mono HB.out.size)
  have B3:=Lib.hid (B2.alloc B2.size (.cells #[.int .i64 (yr s),.int .i64 (mo s),.int .i64 (da s)] 88))
  obtain ⟨x0,x1,x2,x3,x4,x5,x6,x7⟩:=HR.out.on hb
  have ql:=(HR.out.on hb).lt
  rw [HF.out] at x0
  clear hb B2
  rcases cutL_le (s + k * r.every) 1 with ⟨c1,c2⟩ | ⟨c1,c2⟩
  ·have C:=Lib.hid c1
   clear c1
   go_wp2
   exact bodyPost_ret (v:=.tuple #[.int .i64 (s + k * r.every),.int .i64 (s + k * r.every),.bool false]) (by simp [results,Tryz.results152,go_sem]) rfl ⟨⟨_,_,_,rfl,Or.inl ⟨by rw [HE.out,C.out],rfl⟩⟩,B3.out⟩
  ·have C:=Lib.hid c2
   clear c2
   go_wp2
   exact bodyPost_ret (v:=.tuple #[.int .i64 (s + k * r.every),.int .i64 (s + k * r.every),.bool true]) (by simp [results,Tryz.results152,go_sem]) rfl ⟨⟨_,_,_,rfl,Or.inr ⟨rfl,by rw [HE.out,C.out,show s + k * r.every + 1 - 1=s + k * r.every by omega]⟩⟩,B3.out⟩
 ·have HF:=Lib.hid hf
  have HE:Hid (pE r s k=cutL (mon s + 7 * k * r.every) 7):=Lib.hid (by rw [pE_is HZ.out ⟨k0,k1⟩ ⟨s1,s2⟩];unfold pEnds;rw [hf,if_pos rfl];congr 1;rw [Int.mul_assoc 7,Int.mul_comm 7];unfold wd mon;omega)
  clear hf
  have q7:7 * k * r.every=k * r.every * 7:=by rw [Int.mul_assoc 7,Int.mul_comm 7]
  have u0:0≤7 * k * r.every:=by omega
  have u1:7 * k * r.every≤38350550:=by omega
  have mb:=mon_bd s
  have m0:1≤mon s:=by unfold mon;omega
  clear q7
  go_enter Tryz.func152,Tryz.ntmps152
  go_wp2_with fail
  generalize w.alloc (.cells #[.int .i64 r.freq,.int .i64 r.every,.int .i64 r.count,.int .i64 r.till,.slice am r.months.length cm,.slice ad r.days.length cd,.slice aw r.weeks.length cw,.slice ap r.pick.length cp] 29)=W0 at HB HR ⊢
  refine (refDate_yes s _ s1 s2).mono ?_
  rintro e w2 ⟨rfl,hb⟩
  have B2:=HB.out.trans (hb.mono HB.out.size)
  have B3:=Lib.hid (B2.alloc B2.size (.cells #[.int .i64 (yr s),.int .i64 (mo s),.int .i64 (da s)] 88))
  obtain ⟨x0,x1,x2,x3,x4,x5,x6,x7⟩:=HR.out.on hb
  have ql:=(HR.out.on hb).lt
  rw [HF.out] at x0
  clear hb B2
  rcases cutL_le (mon s + 7 * k * r.every) 7 with ⟨c1,c2⟩ | ⟨c1,c2⟩
  ·have C:=Lib.hid c1
   clear c1
   go_wp2_with fail
   go_quiet ((go_at_call 189;exact Calls.quiet_of_same (refMonday_any _ _ s1 s2)))
   go_wp2
   exact bodyPost_ret (v:=.tuple #[.int .i64 (mon s + 7 * k * r.every),.int .i64 (mon s + 7 * k * r.every + 6),.bool false]) (by simp [results,Tryz.results152,go_sem]) rfl ⟨⟨_,_,_,rfl,Or.inl ⟨by rw [HE.out,C.out],rfl⟩⟩,below_drewN B3.out _⟩
  ·have C:=Lib.hid c2
   clear c2
   go_wp2_with fail
   go_quiet ((go_at_call 189;exact Calls.quiet_of_same (refMonday_any _ _ s1 s2)))
   go_wp2
   exact bodyPost_ret (v:=.tuple #[.int .i64 (mon s + 7 * k * r.every),.int .i64 (mon s + 7 * k * r.every + 6),.bool true]) (by simp [results,Tryz.results152,go_sem]) rfl ⟨⟨_,_,_,rfl,Or.inr ⟨rfl,by rw [HE.out,C.out,show mon s + 7 * k * r.every + 7 - 1=mon s + 7 * k * r.every + 6 by omega]⟩⟩,below_drewN B3.out _⟩
 ·have HF:=Lib.hid hf
  obtain ⟨M,hM⟩:∃ M,M=yr s * 12 + mo s - 1 + k * r.every:=⟨_,rfl⟩
  have q1:M.tdiv 12=M / 12:=Int.tdiv_eq_ediv_of_nonneg (by omega)
  have q2:M.tmod 12=M % 12:=Int.tmod_eq_emod_of_nonneg (by omega)
  have HE:Hid (pE r s k=if M / 12≤2199 then cutL (num (M / 12) (M % 12 + 1) 1) (ml (M / 12) (M % 12 + 1)) else none):=Lib.hid (by
   rw [pE_is HZ.out ⟨k0,k1⟩ ⟨s1,s2⟩]
   unfold pEnds
   rw [hf,if_neg (by decide),if_pos rfl,show yr s + (mo s - 1 + k * r.every) / 12=M / 12 by omega,show 1 + (mo s - 1 + k * r.every) % 12=M % 12 + 1 by omega])
  clear hf
  have MB:22800≤M∧M≤10000000:=by omega
  have HM:=Lib.hid hM
  rw [hM] at q1 q2
  clear hM
  go_enter Tryz.func152,Tryz.ntmps152
  go_wp2_with fail
  generalize w.alloc (.cells #[.int .i64 r.freq,.int .i64 r.every,.int .i64 r.count,.int .i64 r.till,.slice am r.months.length cm,.slice ad r.days.length cd,.slice aw r.weeks.length cw,.slice ap r.pick.length cp] 29)=W0 at HB HR ⊢
  refine (refDate_yes s _ s1 s2).mono ?_
  rintro e w2 ⟨rfl,hb⟩
  have B2:=HB.out.trans (hb.mono HB.out.size)
  have B3:=Lib.hid (B2.alloc B2.size (.cells #[.int .i64 (yr s),.int .i64 (mo s),.int .i64 (da s)] 88))
  obtain ⟨x0,x1,x2,x3,x4,x5,x6,x7⟩:=HR.out.on hb
  have ql:=(HR.out.on hb).lt
  rw [HF.out] at x0
  clear hb B2
  go_wp2_with fail
  rw [← HM.out] at q1 q2 ⊢
  generalize w2.alloc (.cells #[.int .i64 (yr s),.int .i64 (mo s),.int .i64 (da s)] 88)=W3 at B3 ⊢
  clear x0 x1 x2 x3 x4 x5 x6 x7 ql
  have Y0:1900≤M / 12:=by omega
  by_cases hy:M / 12≤2199
  ·have nb:=num_bd (ok_first (m:=M % 12 + 1) Y0 hy (by omega) (by omega))
   have lb:=ml_bd (M / 12) (M % 12 + 1)
   have C:Hid (pE r s k=some (num (M / 12) (M % 12 + 1) 1,min (num (M / 12) (M % 12 + 1) 1 + ml (M / 12) (M % 12 + 1) - 1) 109573)):=Lib.hid (by rw [HE.out,if_pos hy];exact if_neg (by omega))
   have p1:ml (M / 12) (M % 12 + 1) > 0:=by omega
   refine (refDays_yes (M / 12) (M % 12 + 1) _ Y0 hy (by omega) (by omega)).mono ?_
   rintro e w4 ⟨rfl,hw⟩
   subst hw
   go_wp2_with fail
   refine (refOf_yes (M / 12) (M % 12 + 1) 1 _ (ok_first Y0 hy (by omega) (by omega))).mono ?_
   rintro e w5 ⟨rfl,hb⟩
   have B5:=Lib.hid (B3.out.trans (hb.mono B3.out.size))
   clear hb
   go_wp2
   exact bodyPost_ret (v:=.tuple #[.int .i64 (num (M / 12) (M % 12 + 1) 1),.int .i64 (num (M / 12) (M % 12 + 1) 1 + ml (M / 12) (M % 12 + 1) - 1),.bool true]) (by simp [results,Tryz.results152,go_sem]) rfl ⟨⟨_,_,_,rfl,Or.inr ⟨rfl,C.out⟩⟩,B5.out⟩
  ·have C:=Lib.hid (HE.out.trans (if_neg hy))
   refine (refDays_no (M / 12) (M % 12 + 1) _ (fun q=>hy q.2.1)).mono ?_
   rintro e w4 ⟨rfl,hw⟩
   subst hw
   go_wp2_with fail
   refine (refOf_no (M / 12) (M % 12 + 1) 1 _ (fun q=>by have:=q.2.1;omega)).mono ?_
   rintro e w5 ⟨rfl,hb⟩
   have B5:=Lib.hid (B3.out.trans (hb.mono B3.out.size))
   clear hb
   go_wp2
   exact bodyPost_ret (v:=.tuple #[.int .i64 0,.int .i64 (-1),.bool false]) (by simp [results,Tryz.results152,go_sem]) rfl ⟨⟨_,_,_,rfl,Or.inl ⟨C.out,rfl⟩⟩,B5.out⟩
 ·have HF:=Lib.hid hf
  have HE:Hid (pE r s k=if yr s + k * r.every≤2199 then some (num (yr s + k * r.every) 1 1,num (yr s + k * r.every) 12 31) else none):=Lib.hid (by rw [pE_is HZ.out ⟨k0,k1⟩ ⟨s1,s2⟩];unfold pEnds;rw [hf,if_neg (by decide),if_neg (by decide),if_pos rfl])
  clear hf
  go_enter Tryz.func152,Tryz.ntmps152
  go_wp2_with fail
  generalize w.alloc (.cells #[.int .i64 r.freq,.int .i64 r.every,.int .i64 r.count,.int .i64 r.till,.slice am r.months.length cm,.slice ad r.days.length cd,.slice aw r.weeks.length cw,.slice ap r.pick.length cp] 29)=W0 at HB HR ⊢
  refine (refDate_yes s _ s1 s2).mono ?_
  rintro e w2 ⟨rfl,hb⟩
  have B2:=HB.out.trans (hb.mono HB.out.size)
  have B3:=Lib.hid (B2.alloc B2.size (.cells #[.int .i64 (yr s),.int .i64 (mo s),.int .i64 (da s)] 88))
  obtain ⟨x0,x1,x2,x3,x4,x5,x6,x7⟩:=HR.out.on hb
  have ql:=(HR.out.on hb).lt
  rw [HF.out] at x0
  clear hb B2
  go_wp2_with fail
  generalize w2.alloc (.cells #[.int .i64 (yr s),.int .i64 (mo s),.int .i64 (da s)] 88)=W3 at B3 ⊢
  clear x0 x1 x2 x3 x4 x5 x6 x7 ql
  generalize hY:yr s + k * r.every=Y at HE ⊢
  have Y1:1900≤Y:=by omega
  have Y3:Y≤10000000:=by omega
  clear hY
  by_cases hy:Y≤2199
  ·have C:=Lib.hid (HE.out.trans (if_pos hy))
   have n1:=num_bd (ok_first (m:=1) Y1 hy (by omega) (by omega))
   have n2:=num_bd (y:=Y) (m:=12) (d:=31) ⟨Y1,hy,by omega,by omega,by omega,by simp [ml,md]⟩
   have p1:num Y 1 1 > 0:=by omega
   refine (refOf_yes Y 1 1 _ (ok_first Y1 hy (by omega) (by omega))).mono ?_
   rintro e w4 ⟨rfl,hb⟩
   have B4:=Lib.hid (B3.out.trans (hb.mono B3.out.size))
   clear hb
   go_wp2_with fail
   refine (refOf_yes Y 12 31 _ ⟨Y1,hy,by omega,by omega,by omega,by simp [ml,md]⟩).mono ?_
   rintro e w5 ⟨rfl,hb⟩
   have B5:=Lib.hid (B4.out.trans (hb.mono B4.out.size))
   clear hb
   go_wp2
   exact bodyPost_ret (v:=.tuple #[.int .i64 (num Y 1 1),.int .i64 (num Y 12 31),.bool true]) (by simp [results,Tryz.results152,go_sem]) rfl ⟨⟨_,_,_,rfl,Or.inr ⟨rfl,by rw [C.out,show min (num Y 12 31) 109573=num Y 12 31 by omega]⟩⟩,B5.out⟩
  ·have C:=Lib.hid (HE.out.trans (if_neg hy))
   refine (refOf_no Y 1 1 _ (fun q=>hy q.2.1)).mono ?_
   rintro e w4 ⟨rfl,hb⟩
   have B4:=Lib.hid (B3.out.trans (hb.mono B3.out.size))
   clear hb
   go_wp2_with fail
   refine (refOf_no Y 12 31 _ (fun q=>by have:=q.2.1;omega)).mono ?_
   rintro e w5 ⟨rfl,hb⟩
   have B5:=Lib.hid (B4.out.trans (hb.mono B4.out.size))
   clear hb
   go_wp2
   exact bodyPost_ret (v:=.tuple #[.int .i64 0,.int .i64 0,.bool false]) (by simp [results,Tryz.results152,go_sem]) rfl ⟨⟨_,_,_,rfl,Or.inl ⟨C.out,rfl⟩⟩,B5.out⟩
end Go.Proofs.YtoncfgfjdlgfcaaGreatDoor
namespace Go.Proofs.YtoncfgfjdlgfcaaGreatDoor
open Go.RowKit Cal
set_option maxHeartbeats 1000000 in
theorem refEnds_yes (n:Int) (w:World) (h1:1≤n) (h2:n≤109573) :
 Calls Tryz.prog 233 #[.int .i64 n] w fun e w'=>e=.returned (.tuple #[.int .i64 ((da n - 1) / 7 + 1),.int .i64 (-((ml (yr n) (mo n) - da n) / 7 + 1))])∧Below w.heap.size w w':=by
 obtain ⟨y1,y2,m1,m2,d1,d2⟩:=date_ok h1 h2
 have lb:=ml_bd (yr n) (mo n)
 go_enter Tryz.func233,Tryz.ntmps233
 go_wp2_with fail
 refine (refDate_yes n _ h1 h2).mono ?_
 rintro e w1 ⟨rfl,hb⟩
 go_wp2_with fail
 refine (refDays_yes (yr n) (mo n) _ y1 y2 m1 m2).mono ?_
 rintro e w2 ⟨rfl,hw⟩
 subst hw
 go_wp2_with fail
 go_quiet (fail)
 go_wp2
 go_ret2
 exact ⟨rfl,below_drewN (hb.trans ((Below.refl _ _).alloc hb.size _)) _⟩
theorem refWeekday_wd (n:Int) (w:World) (h1:1≤n) (h2:n≤109573) :
 Calls Tryz.prog 234 #[.int .i64 n] w fun e w'=>e=.returned (.int .i64 (wd n))∧w'=w:=refWeekday_any n w h1 h2
end Go.Proofs.YtoncfgfjdlgfcaaGreatDoor
namespace Go.Proofs.YtoncfgfjdlgfcaaGreatDoor
open Go.RowKit Cal Txt
theorem rng_len (a:Int) (n:Nat):(rng a n).length=n:=by unfold rng;rw [List.length_map,List.length_range]
end Go.Proofs.YtoncfgfjdlgfcaaGreatDoor
namespace Go.Proofs.YtoncfgfjdlgfcaaGreatDoor
open Go.RowKit Cal Txt
set_option maxHeartbeats 1000000 in
theorem refIn_any (v:Value) (l:List Int) (x:Int) (w:World) (hv:Ints w v l) (hl:l.length≤1000000000) :
 Calls Tryz.prog 103 #[v,.int .i64 x] w fun e w'=>e=.returned (.bool (l.contains x))∧w'=w:=by
 obtain ⟨a,cap,rfl,hc⟩:=hv
 rcases hc with rfl | ⟨b,off,rfl,hc⟩
 ·go_enter Tryz.func103,Tryz.ntmps103
  go_wp2
  go_loop [5] (fun i=>i=.int .i64 0) (fun _=>0)
  case atStart=>rfl
  case round=>
   subst hrel
   go_wp2
   go_ret
   exact ⟨rfl,rfl⟩
 ·have HC:=Lib.hid hc
  clear hc
  go_enter Tryz.func103,Tryz.ntmps103
  go_wp2
  go_loop [5] (fun i=>∃ k:Nat,k≤l.length∧i=.int .i64 k∧(l.take k).contains x=false) (fun i=>l.length - (intOf i).toNat)
  case atStart=>exact ⟨0,Nat.zero_le _,rfl,rfl⟩
  case round=>
   obtain ⟨k,hk,rfl,hF⟩:=hrel
   have HF:=Lib.hid hF
   clear hF
   by_cases hlt:k<l.length
   ·have ck:=HC.out k hlt
    obtain ⟨y,hy⟩:∃ y,y=l.getD k 0:=⟨_,rfl⟩
    rw [← hy] at ck
    have HX:=Lib.hid hy
    clear hy
    rcases he:(y == x) with _ | _
    ·have N1:=Lib.hid (has_take hlt HF.out (x:=x) (by rw [← HX.out];intro q;rw [q] at he;simp at he))
     go_wp2
     go_round
     case rel=>exact ⟨k + 1,by omega,by go_num,N1.out⟩
     case measure=>simp [intOf];omega
    ·have N0:=Lib.hid (has_hit hlt (x:=x) (by rw [← HX.out];exact beq_iff_eq.1 he))
     go_wp2
     go_ret
     exact ⟨ret_bool (by rw [← List.contains_eq_mem,N0.out]),rfl⟩
   ·have N1:Hid (l.contains x=false):=Lib.hid (by have:=HF.out;rwa [List.take_of_length_le (by omega)] at this)
    go_wp2
    go_ret
    exact ⟨ret_bool (by rw [← List.contains_eq_mem,N1.out]),rfl⟩
def np (r:Rl):Rl:={ r with pick:=[] }
theorem perD_len {r:Rl} {s a b:Int} (h:b≤a + 400):(perD r s a b).length≤401∧(allD r s a b).length≤401:=by
 have h1:=(pick_sub r.pick (allD r s a b)).length_le
 have h2:=List.length_filter_le (askB (comp r s)) (rng a (b + 1 - a).toNat)
 rw [rng_len] at h2
 unfold perD
 unfold allD at h1 ⊢
 omega
end Go.Proofs.YtoncfgfjdlgfcaaGreatDoor
