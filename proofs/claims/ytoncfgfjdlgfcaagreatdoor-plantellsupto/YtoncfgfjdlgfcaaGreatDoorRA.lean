/-
  Texts of our own that serve the card of this claim, joined into one.
-/
import Derived.Test.YtoncfgfjdlgfcaaGreatDoorBX
import Derived.Test.YtoncfgfjdlgfcaaGreatDoorRD
import Derived.Test.YtoncfgfjdlgfcaaGreatDoorDA
import Derived.Deep.RegionHeld3
import Derived.Test.YtoncfgfjdlgfcaaGreatDoorBV
import Derived.Test.YtoncfgfjdlgfcaaGreatDoorBK
import Derived.Test.YtoncfgfjdlgfcaaGreatDoorBW
import Derived.BigQuiet
import Derived.Deep.Cut
import Derived.Test.YtoncfgfjdlgfcaaGreatDoorRH
import Derived.Test.YtoncfgfjdlgfcaaGreatDoorBF
import Derived.Deep.CutRange
import Derived.Test.YtoncfgfjdlgfcaaGreatDoorBQ
import Derived.Laws.OwnMore
import Derived.Test.YtoncfgfjdlgfcaaGreatDoorBZ
import Derived.Maps.AppendAt
import Derived.Deep.CutBlock
namespace Go.Proofs.YtoncfgfjdlgfcaaGreatDoor
open Go.RowKit Cal Txt
def tmO (a:Int) (l:List (Int × Int)) (e:Evt) (x:Int):Option Tm:=match rea e x with | none=>none | some r=>tim a l e (x,r)
theorem rea_off {e:Evt} {x:Int} (h:onB e.chg x=false):rea e x=none:=by
 unfold onB at h
 unfold rea
 rcases q:chOf e.chg x with _ | n
 ·rw [q] at h;cases h
 ·rw [q] at h
  show (if n=0 then none else some n)=none
  rw [if_pos (by simpa using h)]
theorem rea_on {e:Evt} {x:Int} (h:onB e.chg x=true):rea e x=some ((chOf e.chg x).getD x):=by
 unfold onB at h
 unfold rea
 rcases q:chOf e.chg x with _ | n
 ·rfl
 ·rw [q] at h
  show (if n=0 then none else some n)=_
  rw [if_neg (by simpa using h)]
  rfl
def TmA (a:Int) (l:List (Int × Int)) (e:Evt) (x:Int) (w:World) (z:Ending) (w':World):Prop:=∃ (T:Tm) (ok:Bool),z=.returned (.tuple #[.agg #[.int .i64 T.1,.int .i64 T.2.1,.int .i64 T.2.2],.bool ok])∧tmO a l e x=(if ok=true then some T else none)∧Below w.heap.size w w'
set_option maxRecDepth 100000 in
set_option maxHeartbeats 4000000 in
theorem refTm_any (a:Int) (l:List (Int × Int)) (v:Value) (e:Evt) (s:Evs) (x:Int) (w:World) (hz:ZoneIn w v a l) (hf:Zo.zf a l=0) (hv:EvB w e s) (h:evF e=0) (hr:∀ r,rea e x=some r→ist r=true) :
 Calls Tryz.prog 96 #[v,.agg (ecells e s),.int .i64 x] w (TmA a l e x w):=by
 have HZ:=Lib.hid (fun W (q:Below w.heap.size w W)=>hz.on q)
 obtain ⟨sa,sc,rfl⟩:=hz.form
 obtain ⟨W2,hW2,b2,z2,Z2,R2⟩:=two_boxes w a l sa sc e s
 have b3:Below W2.heap.size W2 (W2.alloc (.cells #[.int .i64 0,.int .i64 0,.int .i64 0] 44)):=(Below.refl _ _).alloc (Nat.le_refl _) _
 have q3:Zr3 (W2.alloc (.cells #[.int .i64 0,.int .i64 0,.int .i64 0] 44)) (w.heap.size + 1 + 1):=by
  have z3:w.heap.size + 1 + 1=W2.heap.size:=by omega
  rw [z3]
  refine ⟨⟨?_,?_,?_⟩,?_,?_,?_⟩ <;> simp
 obtain ⟨W0,hW0⟩:∃ W0,W0=W2.alloc (.cells #[.int .i64 0,.int .i64 0,.int .i64 0] 44):=⟨_,rfl⟩
 rw [← hW0] at b3 q3
 have hW:W0=((w.alloc (.cells #[.int .i64 a,.slice sa l.length sc] 24)).alloc (.cells (ecells e s) 33)).alloc (.cells #[.int .i64 0,.int .i64 0,.int .i64 0] 44):=by rw [hW0,hW2]
 have B0:=b2.trans (b3.mono b2.size)
 have HW:=Lib.hid hW
 have HB:=Lib.hid B0
 have HE:=Lib.hid (R2.on b3)
 have HX:=Lib.hid (Z2.on b3)
 have HR:=Lib.hid q3
 have cl:=(evF_lens h).2.2.2.2
 have KR:=Lib.hid (refReally_any e s x W0 (hv.on B0).2.2.2.2.2.2.1 (by omega))
 obtain ⟨cl1,ln1,ln2⟩:=cl
 have OFF:=Lib.hid (fun q=>rea_off (e:=e) (x:=x) q)
 have ON:=Lib.hid (fun q=>rea_on (e:=e) (x:=x) q)
 have HRT:=Lib.hid hr
 have KT:=Lib.hid (fun r (q1:1≤r) (q2:r≤157785119) W (q:Below w.heap.size w W)=>refTwice_any a l _ r W (HZ.out _ q) hf q1 q2)
 have TO:Hid (∀ r,rea e x=some r→tmO a l e x=tim a l e (x,r)):=Lib.hid (fun r q=>by unfold tmO;rw [q])
 have TN:Hid (rea e x=none→tmO a l e x=none):=Lib.hid (fun q=>by unfold tmO;rw [q])
 generalize (chOf e.chg x).getD x=RR at KR ON
 generalize onB e.chg x=OB at KR ON OFF
 have wl:w.heap.size≤w.heap.size + 1 + 1:=by omega
 clear hz hv hW B0 b2 b3 z2 Z2 R2 q3 hW2 hW0 W2 h hr hf
 go_enter Tryz.func96,Tryz.ntmps96
 go_upto_region 1 with fail
 rw [← HW.out]
 clear HW
 go_wp2_with (refine ev_load ?h1 (.tmp 4) ?h2 (w.heap.size + 1) e s ?h3 HE.out ?h4;(case h1=>rfl);(case h2=>rfl);(case h3=>rfl))
 refine KR.out.mono ?_
 rintro y w1 ⟨rfl,hb⟩
 have B1:=Lib.hid (HB.out.trans (hb.mono HB.out.size))
 have E1:=Lib.hid (HE.out.on hb)
 have X1:=Lib.hid (HX.out.on hb)
 have R1:=Lib.hid (HR.out.on hb)
 clear hb KR HB HE HX HR
 rcases OB with _ | _
 ·have N:=Lib.hid (TN.out (OFF.out rfl))
  obtain ⟨⟨r0,r1,r2⟩,q0,q1,q2⟩:=R1.out
  have rl:=ecell_in r0
  clear KT TO TN ON OFF HRT
  go_wp2
  refine bodyPost_ret (v:=.tuple #[.agg #[.int .i64 0,.int .i64 0,.int .i64 0],.bool false]) (by simp [results,Tryz.results96,go_sem,r0,r1,r2]) rfl ⟨(0,0,0),false,rfl,by rw [N.out];rfl,?_⟩
  repeat (first | exact B1.out | refine Below.setCell ?_ wl _)
 have hre:=ON.out rfl
 have rt:=of_decide_eq_true (HRT.out _ hre)
 have N:=Lib.hid (TO.out _ hre)
 have K:=Lib.hid (KT.out RR rt.1 rt.2 _ B1.out)
 clear KT TO TN ON OFF HRT hre rt
 obtain ⟨z0,z1⟩:=X1.out
 have zl:=ecell_in z0
 go_wp2_with fail
 clear z0 z1 zl
 refine K.out.mono ?_
 rintro y w2 ⟨u,rfl,hi,hb⟩
 have B2:=Lib.hid (B1.out.trans (hb.mono B1.out.size))
 have E2:=Lib.hid (E1.out.on hb)
 have R2:=Lib.hid (R1.out.on hb)
 obtain ⟨ua,uc,rfl,hc⟩:=hi
 have WO:Hid (wor a l RR=(Zo.twi a l RR).head?):=Lib.hid rfl
 have TI:Hid (tim a l e (x,RR)=match wor a l RR with | none=>none | some f=>if f + e.len≤157785119 then some (x,f,f + e.len) else none):=Lib.hid rfl
 have TMEM:=Lib.hid (fun f (q:f∈Zo.twi a l RR)=>of_decide_eq_true (Zo.twi_mem.1 q).1)
 generalize Zo.twi a l RR=TW at hc WO TMEM
 clear hb K B1 E1 X1 R1
 rcases TW with _ | ⟨f,TW⟩
 ·have N0:Hid (tmO a l e x=none):=Lib.hid (by rw [N.out,TI.out,WO.out];rfl)
  obtain ⟨⟨r0,r1,r2⟩,q0,q1,q2⟩:=R2.out
  have rl:=ecell_in r0
  clear N TI WO TMEM hc
  go_wp2
  refine bodyPost_ret (v:=.tuple #[.agg #[.int .i64 0,.int .i64 0,.int .i64 0],.bool false]) (by simp [results,Tryz.results96,go_sem,r0,r1,r2]) rfl ⟨(0,0,0),false,rfl,by rw [N0.out];rfl,?_⟩
  repeat (first | exact B2.out | refine Below.setCell ?_ wl _)
 ·have fm:=TMEM.out f List.mem_cons_self
  obtain ⟨fm1,fm2⟩:=fm
  rcases hc with hc | ⟨cb,co,rfl,hc⟩
  ·cases hc
  have c0:w2.cell? ⟨cb,co,none⟩=some (.int .i64 f):=hc 0 (by simp)
  obtain ⟨n,hn⟩:∃ n,n=(f :: TW).length:=⟨_,rfl⟩
  have np:0<n:=by rw [hn];simp
  rw [← hn]
  have n0:((n:Int) == 0)=false:=by simp;omega
  have n1:(0:Int)<(n:Int):=by omega
  have e3:=E2.out.1.2.2.2.1
  have N1:Hid (tmO a l e x=if ist (f + e.len)=true then some (x,f,f + e.len) else none):=Lib.hid (by
   rw [N.out,TI.out,WO.out]
   show (if f + e.len≤157785119 then some (x,f,f + e.len) else none)=_
   unfold ist
   by_cases q:f + e.len≤157785119
   ·rw [if_pos q,if_pos (by simp;omega)]
   ·rw [if_neg q,if_neg (by simp;omega)])
  have HS:Hid (∀ X,Below w2.heap.size w2 X→X.cell? ⟨cb,co,none⟩=some (.int .i64 f)∧X.cell? ⟨w.heap.size + 1,3,none⟩=some (.int .i64 e.len)):=Lib.hid (fun X q=>⟨(q.cell (p:=⟨cb,co,none⟩) (ecell_in c0)).trans c0,(q.cell (p:=⟨w.heap.size + 1,3,none⟩) (ecell_in e3)).trans e3⟩)
  have RR2:=Lib.hid R2.out
  clear N TI WO TMEM hc hn c0 e3
  go_wp2_with fail
  go_region_held3 (fun X=>X.cell? ⟨cb,co,none⟩=some (.int .i64 f)∧X.cell? ⟨w.heap.size + 1,3,none⟩=some (.int .i64 e.len))
   (first | exact HS.out _ (Below.drew (Below.refl _ w2)) | exact HS.out _ (Below.alloc (Below.drew (Below.refl _ w2)) (Nat.le_refl _) _) | exact HS.out _ (Below.drew (Below.alloc (Below.refl _ w2) (Nat.le_refl _) _)))
   (fail)
  have we:IntKind.i64.wrap (f + e.len)=f + e.len:=by rw [IntKind.wrap_i64];omega
  rw [we]
  have b5:Below w2.heap.size w2 (w2.alloc (.cells #[.int .i64 x,.int .i64 f,.int .i64 (f + e.len)] 44)).drew:=Below.drew ((Below.refl _ w2).alloc (Nat.le_refl _) _)
  have t0:(w2.alloc (.cells #[.int .i64 x,.int .i64 f,.int .i64 (f + e.len)] 44)).drew.cell? ⟨w2.heap.size,0,none⟩=some (.int .i64 x):=by simp
  have t1:(w2.alloc (.cells #[.int .i64 x,.int .i64 f,.int .i64 (f + e.len)] 44)).drew.cell? ⟨w2.heap.size,1,none⟩=some (.int .i64 f):=by simp
  have t2:(w2.alloc (.cells #[.int .i64 x,.int .i64 f,.int .i64 (f + e.len)] 44)).drew.cell? ⟨w2.heap.size,2,none⟩=some (.int .i64 (f + e.len)):=by simp
  obtain ⟨⟨r0,r1,r2⟩,q0,q1,q2⟩:=RR2.out.on b5
  have B5:=Lib.hid (B2.out.trans (b5.mono B2.out.size))
  generalize (w2.alloc (.cells #[.int .i64 x,.int .i64 f,.int .i64 (f + e.len)] 44)).drew=W5 at b5 t0 t1 t2 r0 r1 r2 q0 q1 q2 B5 ⊢
  have tl:=ecell_in t0
  have rl:=ecell_in r0
  have HI:=Lib.hid (fun W=>refTime_any (f + e.len) W)
  generalize ist (f + e.len)=OK at N1 HI
  generalize f + e.len=S at t2 N1 HI
  clear we b5 HS RR2 np n0 n1
  go_wp2_with (go_at_call 16;refine (HI.out _).mono ?_;rintro y w' ⟨rfl,hw⟩;replace hw:=hw.symm;subst hw)
  refine bodyPost_ret (v:=.tuple #[.agg #[.int .i64 x,.int .i64 f,.int .i64 S],.bool OK]) (by simp [results,Tryz.results96,go_sem,r0,r1,r2]) rfl ⟨(x,f,S),OK,rfl,N1.out,?_⟩
  repeat (first | exact B5.out | refine Below.setCell ?_ wl _)
end Go.Proofs.YtoncfgfjdlgfcaaGreatDoor
namespace Go.Proofs.YtoncfgfjdlgfcaaGreatDoor
open Go.RowKit Cal Txt
def tmx (st d:Int):Int:=(d - 1) * 1440 + st % 1440
def tmk (st:Int) (k:Nat) (l:List Int):List Int:=(l.take k).map (tmx st)
theorem tmk_end (st:Int) (l:List Int):tmk st l.length l=l.map (tmx st):=by unfold tmk;rw [List.take_length]
theorem tmk_snoc {st:Int} {l:List Int} {k:Nat} (h:k<l.length):tmk st (k + 1) l=tmk st k l++[tmx st (l.getD k 0)]:=by
 unfold tmk
 rw [List.take_succ_eq_append_getElem h,List.map_append,List.getD_eq_getElem?_getD,List.getElem?_eq_getElem h]
 rfl
theorem tq_cases (t:Int):(0≤t∧t.tdiv 1440=t / 1440)∨(t<0∧t.tdiv 1440=-((-t) / 1440)):=by
 rcases (by omega:t<0∨0≤t) with h | h
 ·refine Or.inr ⟨h,?_⟩
  have:=Int.neg_tdiv (-t) 1440
  rw [Int.neg_neg] at this
  rw [this,Int.tdiv_eq_ediv_of_nonneg (by omega)]
 ·exact Or.inl ⟨h,Int.tdiv_eq_ediv_of_nonneg h⟩
theorem dsq_wide {r:Rl} {s t:Int} (h:sf r s=0):dsq r s t 200000=(DAYS r s).filter (fun x=>decide (x≤t)):=by
 rcases (by omega:109573<t∨t≤109573) with q | q
 ·rw [dsq_far h (by omega),dsq_much h (Int.le_refl _)]
  refine List.filter_congr (fun x hx=>?_)
  have:=DAYS_in h hx
  rw [decide_eq_true (by omega),decide_eq_true (by omega)]
 ·exact dsq_much h q
def dbD (e:Evt) (t:Int):List Int:=dsq e.rule (e.start / 1440 + 1) (t.tdiv 1440 + 1) 200000
def dbL (e:Evt) (t:Int):List Int:=if e.rep=true then (dbD e t).map (tmx e.start) else [e.start]
theorem ev_sf {e:Evt} (h:evF e=0) (hr:e.rep=true):sf e.rule (e.start / 1440 + 1)=0∧rf e.rule=0:=by
 have hs:=(evF_lens h).2.2.1
 have h3:=(evF_lens h).2.1
 unfold ruF at h3
 rw [if_pos hr] at h3
 have:=sf_ev h3 hs
 rw [(dyo_ok hs).1] at this
 exact ⟨this,h3⟩
theorem dbD_eq {e:Evt} {t:Int} (h:evF e=0) (hr:e.rep=true):dbD e t=(DAYS e.rule (e.start / 1440 + 1)).filter (fun x=>decide (x≤t.tdiv 1440 + 1)):=dsq_wide (ev_sf h hr).1
theorem dbD_in {e:Evt} {t x:Int} (h:evF e=0) (hr:e.rep=true) (hx:x∈dbD e t):1≤x∧x≤109573:=by
 rw [dbD_eq h hr] at hx
 have:=DAYS_in (ev_sf h hr).1 (List.mem_filter.1 hx).1
 have:=(of_decide_eq_true (evF_lens h).2.2.1).1
 omega
theorem dbD_len {e:Evt} {t:Int} (h:evF e=0) (hr:e.rep=true):(dbD e t).length≤109573:=by
 rw [dbD_eq h hr]
 exact Nat.le_trans (List.length_filter_le _ _) (DAYS_len (ev_sf h hr).1)
theorem dbL_rise {e:Evt} {t:Int} (h:evF e=0):(dbL e t).Pairwise (·<·):=by
 unfold dbL
 split
 ·rename_i hr
  rw [dbD_eq h hr,List.pairwise_map]
  exact ((DAYS_rise _ _).filter _).imp (fun q=>by unfold tmx;omega)
 ·simp
theorem dbL_len {e:Evt} {t:Int} (h:evF e=0):(dbL e t).length≤109573:=by
 unfold dbL
 split
 ·rename_i hr
  rw [List.length_map];exact dbD_len h hr
 ·simp
theorem tmx_tmd {e:Evt} (h:evF e=0) (n:Int):tmx e.start n=tmd e.start n:=by
 unfold tmx tmd
 rw [(dyo_ok (evF_lens h).2.2.1).1]
 omega
theorem dbL_mem {e:Evt} {t x:Int} (h:evF e=0) (hx:x≤t):x∈dbL e t↔isS e x:=by
 have hs:=(evF_lens h).2.2.1
 unfold dbL isS
 split
 ·rename_i hr
  rw [dbD_eq h hr,List.mem_map,(dyo_ok hs).1]
  constructor
  ·rintro ⟨n,hn,rfl⟩
   exact ⟨n,(List.mem_filter.1 hn).1,tmx_tmd h n⟩
  ·rintro ⟨n,hn,e1⟩
   refine ⟨n,List.mem_filter.2 ⟨hn,?_⟩,by rw [e1];exact tmx_tmd h n⟩
   have d:=DAYS_in (ev_sf h hr).1 hn
   have s1:=(of_decide_eq_true hs).1
   rw [← tmx_tmd h n] at e1
   unfold tmx at e1
   simp only [decide_eq_true_eq]
   rcases tq_cases t with ⟨a,b⟩ | ⟨a,b⟩
   ·rw [b];omega
   ·omega
 ·simp
def dcL (e:Evt) (fr t:Int):List Int:=evL (dbL e t) e fr t
theorem dcL_mem {e:Evt} {fr t x:Int} (h:evF e=0):x∈dcL e fr t↔((isS e x∨x∈e.more)∧x ∉ e.nots)∧fr≤x∧x≤t:=by
 unfold dcL
 rw [evL_mem]
 constructor
 ·rintro ⟨a,b,c,d⟩
  exact ⟨⟨a.imp (fun q=>(dbL_mem h d).1 q) id,b⟩,c,d⟩
 ·rintro ⟨⟨a,b⟩,c,d⟩
  exact ⟨a.imp (fun q=>(dbL_mem h d).2 q) id,b,c,d⟩
theorem dcL_rise (e:Evt) (fr t:Int):(dcL e fr t).Pairwise (·<·):=evL_rise _ _ _ _
def PutI (b m:List Int) (i:Nat) (p:List Int):Prop:=p.Pairwise (·<·)∧(∀ x,x∈p↔x∈b∨x∈m.take i)∧p.length≤b.length + i
theorem PutI.start {b m:List Int} (h:b.Pairwise (·<·)):PutI b m 0 b:=⟨h,fun x=>by simp,by omega⟩
def kee (e:Evt) (fr t x:Int):Bool:=!(e.nots.contains x) && (decide (fr≤x) && decide (x≤t))
def flt (e:Evt) (fr t:Int) (i:Nat) (p:List Int):List Int:=(p.take i).filter (kee e fr t)
theorem flt_len (e:Evt) (fr t:Int) (i:Nat) (p:List Int):(flt e fr t i p).length≤i:=by
 unfold flt
 have h1:=List.length_filter_le (kee e fr t) (p.take i)
 rw [List.length_take] at h1
 omega
theorem flt_yes {e:Evt} {fr t:Int} {i:Nat} {p:List Int} (h:i<p.length) (hk:kee e fr t (p.getD i 0)=true):flt e fr t (i + 1) p=flt e fr t i p++[p.getD i 0]:=by
 unfold flt
 rw [List.take_succ_eq_append_getElem h,List.filter_append]
 rw [List.getD_eq_getElem?_getD,List.getElem?_eq_getElem h] at hk ⊢
 have hk':kee e fr t p[i]=true:=hk
 simp [hk']
theorem flt_no {e:Evt} {fr t:Int} {i:Nat} {p:List Int} (h:i<p.length) (hk:kee e fr t (p.getD i 0)=false):flt e fr t (i + 1) p=flt e fr t i p:=by
 unfold flt
 rw [List.take_succ_eq_append_getElem h,List.filter_append]
 rw [List.getD_eq_getElem?_getD,List.getElem?_eq_getElem h] at hk
 have hk':kee e fr t p[i]=false:=hk
 simp [hk']
theorem flt_end {e:Evt} {fr t:Int} {p:List Int} (hp:PutI (dbL e t) e.more e.more.length p):flt e fr t p.length p=dcL e fr t:=by
 obtain ⟨h1,h2,_⟩:=hp
 unfold flt
 rw [List.take_length]
 refine rise_ext2 (h1.filter _) (dcL_rise _ _ _) (fun x=>?_)
 unfold dcL
 rw [List.mem_filter,evL_mem,h2 x,List.take_length]
 unfold kee
 simp
end Go.Proofs.YtoncfgfjdlgfcaaGreatDoor
namespace Go.Proofs.YtoncfgfjdlgfcaaGreatDoor
open Go.RowKit Cal Txt
def PutR (l:List Int) (n:Int) (r:List Int):Prop:=(l.Pairwise (·<·)→r.Pairwise (·<·)∧∀ x,x∈r↔x∈l∨x=n)∧r.length≤l.length + 1
theorem put_same {l:List Int} {n:Int} (h:n∈l):PutR l n l:=
 ⟨fun hl=>⟨hl,fun x=>⟨Or.inl,fun q=>q.elim id (fun e=>e ▸ h)⟩⟩,by omega⟩
theorem put_new {l:List Int} {n:Int} {k:Nat} (hk:k≤l.length) (h1:∀ i,k≤i→i<l.length→n<l.getD i 0) (h2:0<k→l.getD (k - 1) 0<n):PutR l n (l.take k++(n :: l.drop k)):=by
 refine ⟨fun hl=>⟨?_,fun x=>?_⟩,by simp;omega⟩
 ·have ht:∀ x∈l.take k,x<n:=fun x hx=>by
   obtain ⟨i,hi,e⟩:=List.getElem_of_mem hx
   rw [List.length_take] at hi
   rw [List.getElem_take] at e
   have q:=h2 (by omega)
   rw [List.getD_eq_getElem?_getD,List.getElem?_eq_getElem (by omega)] at q
   simp only [Option.getD_some] at q
   rcases Nat.lt_or_ge i (k - 1) with z | z
   ·have:=List.pairwise_iff_getElem.1 hl i (k - 1) (by omega) (by omega) z
    omega
   ·have:i=k - 1:=by omega
    subst this
    omega
  have hd:∀ x∈l.drop k,n<x:=fun x hx=>by
   obtain ⟨i,hi,e⟩:=List.getElem_of_mem hx
   rw [List.length_drop] at hi
   rw [List.getElem_drop] at e
   have q:=h1 (k + i) (by omega) (by omega)
   rw [List.getD_eq_getElem?_getD,List.getElem?_eq_getElem (by omega)] at q
   simp only [Option.getD_some] at q
   omega
  refine List.pairwise_append.2 ⟨hl.take,List.pairwise_cons.2 ⟨hd,hl.drop⟩,fun x hx y hy=>?_⟩
  rcases List.mem_cons.1 hy with e | e
  ·rw [e];exact ht x hx
  ·have:=ht x hx;have:=hd y e;omega
 ·rw [List.mem_append,List.mem_cons]
  constructor
  ·rintro (q | q | q)
   ·exact Or.inl (List.mem_of_mem_take q)
   ·exact Or.inr q
   ·exact Or.inl (List.mem_of_mem_drop q)
  ·rintro (q | q)
   ·rw [← List.take_append_drop k l] at q
    rcases List.mem_append.1 q with z | z
    ·exact Or.inl z
    ·exact Or.inr (Or.inr z)
   ·exact Or.inr (Or.inl q)
def Frl (v:Value) (l:List Int):Prop:=(v=.slice none 0 0∧l=[])∨∃ b off cap,v=.slice (some ⟨b,off,none⟩) l.length cap∧l.length≤cap
def PutA (w:World) (l:List Int) (n:Int) (e:Ending) (w':World):Prop:=∃ u r,e=.returned u∧Ints w' u r∧Frl u r∧PutR l n r∧Below w.heap.size w w'
theorem own_frl {w:World} {n0:Nat} {v:Value} {l:List Int} (h:w.ownsRow n0 3 1 v l.length (nums l)):Frl v l:=by
 rcases own_hol h with ⟨q,q2⟩ | ⟨g,cap,q,_,hc,_,_⟩
 ·exact Or.inl ⟨q,q2⟩
 ·exact Or.inr ⟨g,0,cap,q,hc⟩
theorem ints_take {w:World} {a:Option Addr} {l:List Int} {cap k:Nat} (h:Ints w (.slice a l.length cap) l) (hk:k≤l.length):Ints w (.slice a k cap) (l.take k):=by
 obtain ⟨a',c',e,hc⟩:=h
 obtain ⟨rfl,rfl⟩:a=a'∧cap=c':=by simpa using e
 refine ⟨a,cap,by rw [List.length_take,Nat.min_eq_left hk],?_⟩
 rcases hc with rfl | ⟨b,off,ea,hc⟩
 ·exact Or.inl (by simp)
 ·refine Or.inr ⟨b,off,ea,fun i hi=>?_⟩
  rw [List.length_take] at hi
  rw [hc i (by omega),List.getD_eq_getElem?_getD,List.getD_eq_getElem?_getD,List.getElem?_take,if_pos (by omega)]
theorem app_nil {w:World} {n0:Nat} {v:Value} {l:List Int} (h:w.ownsRow n0 3 1 v l.length (nums l)) (a:Option Addr) (c:Nat) (ty:TypeId):(Builtin.append_ #[26,26] ty #[v,.slice a 0 c]).run Tryz.prog w=.ok v w:=by
 obtain ⟨i0,hi,hz0,hz1,hz2⟩:=info_parts info_ev_int
 rcases a with _ | ad
 ·rcases h.2 with ⟨rfl,h0⟩ | ⟨g,cp,cur,rfl,_,hg,hnc,_,_,_⟩
  ·simp [Builtin.append_,run_underlying Tryz.underlying26,sizeOf,typeInfo,hi,Builtin.lenOf,Builtin.firstCells]
  ·simp [Builtin.append_,run_underlying Tryz.underlying26,sizeOf,typeInfo,hi,Builtin.lenOf,Builtin.firstCells,hnc,storeCells]
 ·rcases h.2 with ⟨rfl,h0⟩ | ⟨g,cp,cur,rfl,_,hg,hnc,_,_,_⟩
  ·simp [Builtin.append_,run_underlying Tryz.underlying26,sizeOf,typeInfo,hi,Builtin.lenOf,Builtin.firstCells,loadCells,loadCellsFrom]
  ·simp [Builtin.append_,run_underlying Tryz.underlying26,sizeOf,typeInfo,hi,Builtin.lenOf,Builtin.firstCells,hnc,storeCells,loadCells,loadCellsFrom]
theorem put_one (w:World) (n:Int):Ints (w.alloc (.cells #[.int .i64 n] 3)) (.slice (some ⟨w.heap.size,0,none⟩) 1 1) [n]:=
 ⟨_,_,rfl,Or.inr ⟨w.heap.size,0,rfl,fun i hi=>by
  obtain rfl:i=0:=by simp at hi;omega
  simp⟩⟩
theorem ints_drop {w:World} {b off:Nat} {l:List Int} {cap k:Nat} (h:Ints w (.slice (some ⟨b,off,none⟩) l.length cap) l) (hk:k≤l.length) (hc:l.length≤cap):Ints w (.slice (if cap=k then some ⟨b,off,none⟩ else some ⟨b,off + k,none⟩) (l.length - k) (cap - k)) (l.drop k):=by
 obtain ⟨a',c',e,hcell⟩:=h
 obtain ⟨rfl,rfl⟩:some (⟨b,off,none⟩:Addr)=a'∧cap=c':=by simpa using e
 refine ⟨_,_,by rw [List.length_drop],?_⟩
 by_cases q:cap=k
 ·exact Or.inl (List.drop_eq_nil_of_le (by omega))
 ·rw [if_neg q]
  rcases hcell with rfl | ⟨b',off',ea,hcell⟩
  ·exact Or.inl (by simp)
  ·obtain ⟨rfl,rfl⟩:b=b'∧off=off':=by simpa using ea
   refine Or.inr ⟨b,off + k,rfl,fun i hi=>?_⟩
   rw [List.length_drop] at hi
   have:=hcell (k + i) (by omega)
   rw [← Nat.add_assoc] at this
   rw [this,List.getD_eq_getElem?_getD,List.getD_eq_getElem?_getD,List.getElem?_drop]
def PutB (w:World) (v:Value) (l:List Int) (n:Int) (e:Ending) (w':World):Prop:=∃ u r,e=.returned u∧Ints w' u r∧Frl u r∧PutR l n r∧Below w.heap.size w w'∧∀ g,u.ownBlock=some g→v.ownBlock=some g∨w.heap.size≤g
theorem own_fre {w:World} {n0:Nat} {t:TypeId} {k:Nat} {v:Value} {n:Nat} {xs:List Value} (h:w.ownsRow n0 t k v n xs):∀ g,v.ownBlock=some g→n0≤g:=fun g q=>by
 rcases h.2 with ⟨hv,_⟩ | ⟨b,cap,cur,hv,hb,_⟩
 ·rw [hv] at q;cases q
 ·rw [hv] at q
  have e:b=g:=by simpa [Value.ownBlock] using q
  rw [← e];exact hb
set_option maxRecDepth 100000 in
set_option maxHeartbeats 4000000 in
theorem refPut_own (v:Value) (l:List Int) (n:Int) (w:World) (hv:Ints w v l) (hf:Frl v l) (hl:l.length≤900000) :
 Calls Tryz.prog 58 #[v,.int .i64 n] w (PutB w v l n):=by
 rcases hf with ⟨rfl,rfl⟩ | ⟨b,off,cap,rfl,lc⟩
 ·obtain ⟨v3,w3,ap2,o2,b2⟩:=app_any (w:=w.alloc (.cells #[.int .i64 n] 3)) (n0:=w.heap.size) (l:=[]) (mo:=[n]) (World.ownsRow_nil _ w.heap.size 3 1) (put_one w n) (by rw [World.size_alloc];omega) (by simp)
  have AP1:=Lib.hid (app_nil (w:=w) (n0:=w.heap.size) (l:=[]) (World.ownsRow_nil _ w.heap.size 3 1) none 0)
  have AP2:=Lib.hid ap2
  have AP3:=Lib.hid (app_nil o2 none 0)
  have ZZ:=Lib.hid (show PutB w (.slice none 0 0) [] n (.returned v3) w3 from ⟨v3,_,rfl,ow_ints o2,own_frl o2,put_new (l:=[]) (k:=0) (Nat.le_refl _) (fun i _ h=>by simp at h) (fun q=>by omega),(((Below.refl _ _).alloc (Nat.le_refl _) _).trans b2),fun g q=>Or.inr (own_fre o2 g q)⟩)
  clear ap2 o2 b2 hv
  go_enter Tryz.func58,Tryz.ntmps58
  go_wp2_with fail
  go_loop [5] (fun i=>i=.int .i64 0) (fun _=>0)
  case atStart=>rfl
  case round=>
   subst hrel
   go_upto_region 8 with (at_builtin;refine wpList_app rfl _ _ 26 rfl _ _ _ _ rfl rfl AP1.out ?_)
   go_upto_region 9 with (at_builtin;refine wpList_app rfl _ _ 26 rfl _ _ _ _ rfl rfl AP2.out ?_)
   go_wp2_with (at_builtin;refine wpList_app rfl _ _ 26 rfl _ _ _ _ rfl rfl AP3.out ?_)
   go_ret
   exact ZZ.out
 have HV:=Lib.hid hv
 have HCP:Hid (Frl (.slice (some ⟨b,off,none⟩) l.length cap) l):=Lib.hid (Or.inr ⟨b,off,cap,rfl,lc⟩)
 have HC:Hid (∀ i,i<l.length→w.cell? ⟨b,off + i,none⟩=some (.int .i64 (l.getD i 0))):=Lib.hid (fun i hi=>by
  obtain ⟨a',c',e,hc⟩:=hv
  obtain ⟨rfl,rfl⟩:some (⟨b,off,none⟩:Addr)=a'∧cap=c':=by simpa using e
  rcases hc with hc | ⟨b',off',ea,hc⟩
  ·rw [hc] at hi;simp at hi
  ·obtain ⟨rfl,rfl⟩:b=b'∧off=off':=by simpa using ea
   exact hc i hi)
 clear hv
 go_enter Tryz.func58,Tryz.ntmps58
 go_wp2_with fail
 go_loop [5] (fun i=>∃ k:Nat,k≤l.length∧i=.int .i64 k∧∀ i,k≤i→i<l.length→n<l.getD i 0) (fun i=>(intOf i).toNat)
 case atStart=>exact ⟨l.length,Nat.le_refl _,rfl,fun i h1 h2=>by omega⟩
 case round=>
  obtain ⟨k,hk,rfl,hF⟩:=hrel
  have HF:=Lib.hid hF
  clear hF
  rcases Nat.eq_zero_or_pos k with h0 | h0
  ·subst h0
   have PR:Hid (PutR l n (l.take 0++(n :: l.drop 0))):=Lib.hid (put_new (Nat.zero_le _) (fun i _ h=>HF.out i (Nat.zero_le _) h) (fun q=>by omega))
   obtain ⟨v2,w2,ap1,o1,b1⟩:=app_any (l:=[]) (mo:=l.take 0) (World.ownsRow_nil w w.heap.size 3 1) (ints_take HV.out (Nat.zero_le _)) (Nat.le_refl _) (by simp)
   rw [List.nil_append] at o1
   have z2:=b1.size
   obtain ⟨v3,w3,ap2,o2,b2⟩:=app_any (l:=l.take 0) (mo:=[n]) (o1.alloc (.cells #[.int .i64 n] 3)) (put_one w2 n) (Nat.le_trans z2 (by rw [World.size_alloc];omega)) (by simp)
   have B2:Below w.heap.size w w3:=(b1.alloc z2 _).trans b2
   have ID:Ints w3 (.slice (some ⟨b,off,none⟩) l.length cap) (l.drop 0):=by rw [List.drop_zero];exact HV.out.on B2
   obtain ⟨v4,w4,ap3,o3,b3⟩:=app_any (l:=l.take 0++[n]) (mo:=l.drop 0) o2 ID B2.size (by simp;omega)
   rw [List.append_assoc,List.singleton_append] at o3
   have AP1:=Lib.hid ap1
   have AP2:=Lib.hid ap2
   have AP3:=Lib.hid ap3
   have ZZ:=Lib.hid (show PutB w (.slice (some ⟨b,off,none⟩) l.length cap) l n (.returned v4) w4 from ⟨v4,_,rfl,ow_ints o3,own_frl o3,PR.out,B2.trans b3,fun g q=>Or.inr (own_fre o3 g q)⟩)
   clear ap1 ap2 ap3 o1 o2 o3 b1 b2 b3 B2 ID PR z2 HF
   go_wp2_with (at_builtin;first | refine wpList_app rfl _ _ 26 rfl _ _ _ _ rfl rfl AP1.out ?_ | refine wpList_app rfl _ _ 26 rfl _ _ _ _ rfl rfl AP2.out ?_ | refine wpList_app rfl _ _ 26 rfl _ _ _ _ rfl rfl AP3.out ?_)
   all_goals
    go_ret
    exact ZZ.out
  ·obtain ⟨j,rfl⟩:∃ j,k=j + 1:=⟨k - 1,by omega⟩
   have ck:=HC.out j (by omega)
   have HX:Hid (∀ x,x=l.getD j 0→n<x→∀ i,j≤i→i<l.length→n<l.getD i 0):=Lib.hid (fun x e q i h1 h2=>by
    rcases Nat.lt_or_ge j i with z | z
    ·exact HF.out i (by omega) h2
    ·rw [show i=j by omega,← e];exact q)
   obtain ⟨x,hx⟩:∃ x,x=l.getD j 0:=⟨_,rfl⟩
   rw [← hx] at ck
   have HXX:=Lib.hid hx
   have i1:(0:Int)≤((j + 1:Nat):Int) - 1:=by omega
   have i2:((j + 1:Nat):Int) - 1<(l.length:Int):=by omega
   have i3:(((j + 1:Nat):Int) - 1).toNat=j:=by omega
   clear hx
   by_cases hq:n<x
   ·have N1:=Lib.hid (HX.out x HXX.out hq)
    go_wp2
    go_round
    case rel=>exact ⟨j,by omega,by go_num,N1.out⟩
    case measure=>simp [intOf]
   ·rcases he:(x == n) with _ | _
    ·have PR:Hid (PutR l n (l.take (j + 1)++(n :: l.drop (j + 1)))):=Lib.hid (put_new (by omega) HF.out (fun _=>by
      have e:=beq_eq_false_iff_ne.1 he
      rw [Nat.add_sub_cancel,← HXX.out];omega))
     obtain ⟨v2,w2,ap1,o1,b1⟩:=app_any (l:=[]) (mo:=l.take (j + 1)) (World.ownsRow_nil w w.heap.size 3 1) (ints_take HV.out (show j + 1≤l.length by omega)) (Nat.le_refl _) (by simp;omega)
     rw [List.nil_append] at o1
     have z2:=b1.size
     obtain ⟨v3,w3,ap2,o2,b2⟩:=app_any (l:=l.take (j + 1)) (mo:=[n]) (o1.alloc (.cells #[.int .i64 n] 3)) (put_one w2 n) (Nat.le_trans z2 (by rw [World.size_alloc];omega)) (by simp;omega)
     have B2:Below w.heap.size w w3:=(b1.alloc z2 _).trans b2
     obtain ⟨SL,hS⟩:∃ SL:Option Addr,SL=if cap=j + 1 then some ⟨b,off,none⟩ else some ⟨b,off + (j + 1),none⟩:=⟨_,rfl⟩
     have ID:Ints w3 (.slice SL (l.length - (j + 1)) (cap - (j + 1))) (l.drop (j + 1)):=by rw [hS];exact ints_drop (HV.out.on B2) hk lc
     obtain ⟨v4,w4,ap3,o3,b3⟩:=app_any (l:=l.take (j + 1)++[n]) (mo:=l.drop (j + 1)) o2 ID B2.size (by simp;omega)
     rw [List.append_assoc,List.singleton_append] at o3
     have AP1:=Lib.hid ap1
     have AP2:=Lib.hid ap2
     have AP3:=Lib.hid ap3
     have ZZ:=Lib.hid (show PutB w (.slice (some ⟨b,off,none⟩) l.length cap) l n (.returned v4) w4 from ⟨v4,_,rfl,ow_ints o3,own_frl o3,PR.out,B2.trans b3,fun g q=>Or.inr (own_fre o3 g q)⟩)
     have c0:¬ l.length<j + 1:=by omega
     have c9:j + 1≤cap:=by omega
     clear ap1 ap2 ap3 o1 o2 o3 b1 b2 b3 B2 ID PR z2
     rcases (by by_cases q:cap=j + 1;exact Or.inl q;exact Or.inr q:cap=j + 1∨¬ cap=j + 1) with q | q
     ·rw [if_pos q] at hS
      subst hS
      go_wp2_with (at_builtin;first | refine wpList_app rfl _ _ 26 rfl _ _ _ _ rfl rfl AP1.out ?_ | refine wpList_app rfl _ _ 26 rfl _ _ _ _ rfl rfl AP2.out ?_ | refine wpList_app rfl _ _ 26 rfl _ _ _ _ rfl rfl AP3.out ?_)
      go_ret
      exact ZZ.out
     ·rw [if_neg q] at hS
      subst hS
      go_wp2_with (at_builtin;first | refine wpList_app rfl _ _ 26 rfl _ _ _ _ rfl rfl AP1.out ?_ | refine wpList_app rfl _ _ 26 rfl _ _ _ _ rfl rfl AP2.out ?_ | refine wpList_app rfl _ _ 26 rfl _ _ _ _ rfl rfl AP3.out ?_)
      go_ret
      exact ZZ.out
    ·have N1:Hid (PutR l n l):=Lib.hid (put_same (by
      have e:x=n:=by simpa using he
      rw [← e,HXX.out,List.getD_eq_getElem?_getD,List.getElem?_eq_getElem (by omega)]
      exact List.getElem_mem (by omega)))
     go_wp2
     go_ret
     exact ⟨.slice (some ⟨b,off,none⟩) l.length cap,l,rfl,HV.out,HCP.out,N1.out,Below.refl _ _,fun g q=>Or.inl q⟩
theorem refPut_any (v:Value) (l:List Int) (n:Int) (w:World) (hv:Ints w v l) (hf:Frl v l) (hl:l.length≤900000) :
 Calls Tryz.prog 58 #[v,.int .i64 n] w (PutA w l n):=
 (refPut_own v l n w hv hf hl).mono (fun _ _ ⟨u,r,h1,h2,h3,h4,h5,_⟩=>⟨u,r,h1,h2,h3,h4,h5⟩)
end Go.Proofs.YtoncfgfjdlgfcaaGreatDoor
namespace Go.Proofs.YtoncfgfjdlgfcaaGreatDoor
open Go.RowKit Cal Txt
theorem PutI.next {b m p r:List Int} {i:Nat} (h:PutI b m i p) (hi:i<m.length) (hr:PutR p (m.getD i 0) r):PutI b m (i + 1) r:=by
 obtain ⟨h1,h2,h3⟩:=h
 obtain ⟨g1,g2⟩:=hr.1 h1
 refine ⟨g1,fun x=>?_,by have:=hr.2;omega⟩
 rw [g2 x,h2 x,List.take_succ_eq_append_getElem hi,List.mem_append,List.mem_singleton,List.getD_eq_getElem?_getD,List.getElem?_eq_getElem hi]
 constructor
 ·rintro ((q | q) | q)
  ·exact Or.inl q
  ·exact Or.inr (Or.inl q)
  ·exact Or.inr (Or.inr q)
 ·rintro (q | q | q)
  ·exact Or.inl (Or.inl q)
  ·exact Or.inl (Or.inr q)
  ·exact Or.inr q
theorem one_news (wa:World) (x:Int):∀ j u,[Value.int .i64 x][j]?=some u→((wa.alloc (.cells #[.int .i64 x] 3)).drew).cell? ((⟨wa.heap.size,0,none⟩:Addr).add j)=some u:=fun j u hj=>by
 match j,hj with
 | 0,hj=>simp at hj;subst hj;simp [Addr.add]
theorem raw_tmx {st d:Int} (h1:1≤d) (h2:d≤109573) (s1:1≤st) (s2:st≤157785119):IntKind.i64.wrap (IntKind.i64.wrap (IntKind.i64.wrap (d - 1) * 1440) + st.tmod 1440)=tmx st d:=by
 rw [Int.tmod_eq_emod_of_nonneg (by omega)]
 have e:∀ n:Int,-9223372036854775808≤n→n≤9223372036854775807→IntKind.i64.wrap n=n:=fun n a b=>by rw [IntKind.wrap_i64];omega
 rw [e (d - 1) (by omega) (by omega),e ((d - 1) * 1440) (by omega) (by omega),e _ (by omega) (by omega)]
 rfl
set_option maxRecDepth 100000 in
set_option maxHeartbeats 8000000 in
theorem refLocal_fre (e:Evt) (s:Evs) (fr t:Int) (w:World) (hv:EvB w e s) (h:evF e=0) (ht:t≤9223372036854775807) (ht2:-9223372036854775808≤t) :
 Calls Tryz.prog 56 #[.agg (ecells e s),.int .i64 fr,.int .i64 t] w fun x w'=>∃ v,x=.returned v∧Ints w' v (dcL e fr t)∧Below w.heap.size w w'∧Frl v (dcL e fr t)∧∀ g,v.ownBlock=some g→w.heap.size≤g:=by
 obtain ⟨i0,hi,hz0,hz1,hz2⟩:=info_parts info_ev_int
 have B0:=(Below.refl w.heap.size w).alloc (Nat.le_refl _) (.cells (ecells e s) 33)
 have R0:=EBox.new w e s 33
 have HV:=Lib.hid (fun W (q:Below w.heap.size w W)=>hv.on q)
 obtain ⟨W0,hW⟩:∃ W0,W0=w.alloc (.cells (ecells e s) 33):=⟨_,rfl⟩
 rw [← hW] at B0 R0
 have HW:=Lib.hid hW
 have HB:=Lib.hid B0
 have HE:=Lib.hid R0
 have st1:=(of_decide_eq_true (evF_lens h).2.2.1).1
 have st2:=(of_decide_eq_true (evF_lens h).2.2.1).2
 have H0:=Lib.hid h
 have c2:=R0.1.2.2.1
 have c4:=R0.1.2.2.2.2
 have bx:=R0.lt
 clear hv B0 R0 hW h
 go_enter Tryz.func56,Tryz.ntmps56
 go_upto_region 1 with fail
 rw [← HW.out]
 clear HW
 go_upto_if 18 with fail
 clear c2 c4
 have b1:=(Below.refl W0.heap.size W0).alloc (Nat.le_refl _) (.cells #[.int .i64 e.start] 3)
 have P1:=put_one W0 e.start
 obtain ⟨W1,hW⟩:∃ W1,W1=W0.alloc (.cells #[.int .i64 e.start] 3):=⟨_,rfl⟩
 rw [← hW] at b1 P1 ⊢
 have HP1:=Lib.hid P1
 have B1:=Lib.hid (HB.out.trans (b1.mono HB.out.size))
 have E1:=Lib.hid (HE.out.on b1)
 clear hW b1 HB HE bx P1
 go_cut [7,8,9] from 14 to 100 (fun s7 s8 s9 wx=>Ints wx s7 (dbL e t)∧Frl s7 (dbL e t)∧Below w.heap.size w wx∧EBox wx w.heap.size e s)
 case first=>
  rcases hr:e.rep with _ | _
  ·have EV:Hid (dbL e t=[e.start]):=Lib.hid (if_neg (by rw [hr];decide))
   go_wp2
   go_meet
   case rel=>exact ⟨by rw [EV.out];exact HP1.out,by rw [EV.out];exact Or.inr ⟨_,_,1,rfl,Nat.le_refl _⟩,B1.out,E1.out⟩
  ·have EV:Hid (dbL e t=(dbD e t).map (tmx e.start)):=Lib.hid (if_pos hr)
   have s0:=ev_sf H0.out hr
   obtain ⟨_,q1,q2⟩:=sf_ok s0.1
   have wq:wrap64 (t.tdiv 1440 + 1)=t.tdiv 1440 + 1:=by
    rcases tq_cases t with ⟨a,b⟩ | ⟨a,b⟩
    ·rw [b];unfold wrap64;omega
    ·rw [b];unfold wrap64;omega
   have K:=Lib.hid (refSeq_far e.rule (rval e s) (e.start / 1440 + 1) (t.tdiv 1440 + 1) 200000 W1 (HV.out _ B1.out).rule s0.2 q1 q2 (by
    rcases tq_cases t with ⟨a,b⟩ | ⟨a,b⟩
    ·rw [b];omega
    ·rw [b];omega) (by omega))
   have DL:(dbD e t).length≤109573:=dbD_len H0.out hr
   have DI:=Lib.hid (fun x=>dbD_in (t:=t) (x:=x) H0.out hr)
   have c2:=E1.out.1.2.2.1
   have wl:=E1.out.lt
   clear s0 q1 q2
   go_wp2_with (refine ru_load ?j1 (.tmp 19) ?j2 w.heap.size 5 e s ?j3 E1.out.rrange ?j4;(case j1=>rfl);(case j2=>rfl);(case j3=>rfl))
   clear c2 wl
   refine K.out.mono ?_
   rintro x W2 ⟨v2,rfl,hx,hb⟩
   have hx':Ints W2 v2 (dbD e t):=hx
   have B2:=Lib.hid (B1.out.trans (hb.mono B1.out.size))
   have E2:=Lib.hid (E1.out.on hb)
   have EV2:=Lib.hid (tmk_end e.start (dbD e t))
   generalize dbD e t=DS at hx' DL DI EV EV2
   obtain ⟨qa,qc,rfl,hcc⟩:=hx'
   have HC:=Lib.hid hcc
   clear hx hb K hcc B1 E1 HP1 wq
   go_wp2_with fail
   go_loopw [7,9] (fun lv iv wr=>∃ i:Nat,i≤DS.length∧iv=.int .i64 i∧wr.ownsRow W2.heap.size 3 1 lv i (nums (tmk e.start i DS))∧Below W2.heap.size W2 wr) (fun _ iv _=>DS.length - (intOf iv).toNat)
   case atStart=>exact ⟨0,Nat.zero_le _,rfl,World.ownsRow_nil _ _ _ _,Below.refl _ _⟩
   case round=>
    obtain ⟨i,hi',rfl,hown,hB⟩:=hrel
    obtain ⟨wa,hwa⟩:=wnm hB
    subst hwa
    have HO:=Lib.hid hown
    have HBa:=Lib.hid hB
    have szx:=hB.size
    clear hown
    by_cases hlt:i<DS.length
    ·rcases HC.out with hc | ⟨lb,lo,rfl,hc⟩
     ·rw [hc] at hlt;simp at hlt
     have k0:=hc i hlt
     have lbl:=ecell_in k0
     have k1:=(hB.cell (p:=⟨lb,lo + i,none⟩) lbl).trans k0
     have d1:=DI.out (DS.getD i 0) (by rw [List.getD_eq_getElem?_getD,List.getElem?_eq_getElem hlt];exact List.getElem_mem hlt)
     have N1:=Lib.hid (tmk_snoc (st:=e.start) hlt)
     obtain ⟨d,hd⟩:∃ d,d=DS.getD i 0:=⟨_,rfl⟩
     rw [← hd] at k1 d1 N1
     have k2:wa.cell? ⟨w.heap.size,2,none⟩=some (.int .i64 e.start):=(E2.out.on hB).1.2.2.1
     have lb2:=ecell_in k1
     have lb3:=ecell_in k2
     have SS:Hid (∀ X,Below W2.heap.size W2 X→X.cell? ⟨lb,lo + i,none⟩=some (.int .i64 d)∧X.cell? ⟨w.heap.size,2,none⟩=some (.int .i64 e.start)):=Lib.hid (fun X q=>⟨(q.cell (p:=⟨lb,lo + i,none⟩) lbl).trans (by rw [hd];exact k0),(E2.out.on q).1.2.2.1⟩)
     obtain ⟨d1,d2⟩:=d1
     have VAL:Hid ((IntKind.i64.wrap (IntKind.i64.wrap (IntKind.i64.wrap (d - 1) * 1440) + e.start.tmod 1440))=tmx e.start d):=Lib.hid (raw_tmx d1 d2 st1 st2)
     clear hc hd k0 lbl hB EV EV2
     go_upto_region 8 with fail
     go_region_held3 (fun X=>X.cell? ⟨lb,lo + i,none⟩=some (.int .i64 d)∧X.cell? ⟨w.heap.size,2,none⟩=some (.int .i64 e.start))
      (first | exact SS.out _ (Below.drew HBa.out) | exact SS.out _ (Below.alloc (Below.drew HBa.out) szx _) | exact SS.out _ (Below.drew (Below.alloc HBa.out szx _)) | exact SS.out _ hb3)
      (first
      | (refine Zo.step_append_own rfl _ _ 26 rfl W2.heap.size 3 i0 (.int .i64 0) 1 8 Tryz.underlying26 hi hz0 hz1 hz2 rfl (by decide) _ i (nums (tmk e.start i DS)) rfl (ow_below HO.out (Below.drew (Below.alloc (Below.refl _ _) (Nat.le_refl _) _))) ⟨wa.heap.size,0,none⟩ 1 1 [.int .i64 (IntKind.i64.wrap (IntKind.i64.wrap (IntKind.i64.wrap (d - 1) * 1440) + e.start.tmod 1440))] rfl rfl (one_news _ _) (fun u hu=>by simp at hu;subst hu;rfl) (by unfold maxLen;omega) (by omega) (Nat.le_trans szx (by simp)) ?_;intro v' w3 R1 R2;have hb3:Below W2.heap.size W2 w3:=Below.grown (Below.drew (Below.alloc HBa.out szx _)) R2 (Nat.le_trans szx (by simp)) (fun j hj=>(HO.out.lt j hj).1);have Q1:=Lib.hid R1;rw [VAL.out] at Q1;clear R1 R2))
     all_goals
      rw [← nums_snoc] at Q1
      have Q2:=Lib.hid hb3
      clear hb3 k1 k2 lb2 lb3
      go_wp2
      go_roundw
      case rel=>exact ⟨i + 1,by omega,by go_num,by rw [N1.out];exact Q1.out,Q2.out⟩
      case measure=>simp [intOf];omega
    ·have ei:i=DS.length:=by omega
     have IS0:=ow_ints HO.out
     have FR0:=HO.out
     rw [ei,EV2.out] at IS0
     have LN:(DS.map (tmx e.start)).length=i:=by rw [List.length_map,ei]
     rw [ei,EV2.out,← ei,← LN] at FR0
     have IS:=Lib.hid IS0
     have FR:=Lib.hid (own_frl FR0)
     have B3:=Lib.hid (B2.out.trans (hB.mono B2.out.size))
     have E3:=Lib.hid (E2.out.on hB)
     clear IS0 FR0 LN hB HO
     go_wp2
     go_meet
     case rel=>exact ⟨by rw [EV.out];exact IS.out,by rw [EV.out];exact FR.out,B3.out,E3.out⟩
 case rest=>
  obtain ⟨hI,hF,hb,he⟩:=hcut
  obtain ⟨W2,hw2⟩:=wnm hb
  subst hw2
  have B2:=Lib.hid hb
  have E2:=Lib.hid he
  have HI0:=Lib.hid hI
  have HF0:=Lib.hid hF
  have DR:=Lib.hid (dbL_rise (t:=t) H0.out)
  have DL:=dbL_len (t:=t) H0.out
  have ML:=(evF_lens H0.out).1.2.2
  have NL:=(evF_lens H0.out).1.2.1
  have FE:=Lib.hid (fun p=>@flt_end e fr t p)
  have c13:=E2.out.2.2.1
  have wl:=E2.out.lt
  obtain ⟨ao,co,eo,ho⟩:=(HV.out _ B2.out).2.2.2.2.1
  have HO:=Lib.hid ho
  have EO:=Lib.hid eo
  rw [eo] at c13
  clear hI hF hb he B1 E1 HP1 ho eo H0
  generalize dbL e t=DB at HI0 HF0 DR DL FE
  go_wp2_with fail
  clear c13 wl
  go_loopw [7,10] (fun lv iv wr=>∃ (i:Nat) (P:List Int),i≤e.more.length∧iv=.int .i64 i∧Ints wr lv P∧Frl lv P∧PutI DB e.more i P∧Below W2.heap.size W2 wr) (fun _ iv _=>e.more.length - (intOf iv).toNat)
  case atStart=>exact ⟨0,DB,Nat.zero_le _,rfl,HI0.out,HF0.out,PutI.start DR.out,Below.refl _ _⟩
  case round=>
   obtain ⟨i,P,hi',rfl,hI,hF,hP,hB⟩:=hrel
   obtain ⟨wa,hwa⟩:=wnm hB
   subst hwa
   have HI:=Lib.hid hI
   have HFr:=Lib.hid hF
   have HP:=Lib.hid hP
   have HBa:=Lib.hid hB
   have pl:=hP.2.2
   have Ea:=E2.out.on hB
   have c13:wa.cell? ⟨w.heap.size,13,none⟩=some (.slice ao e.more.length co):=by rw [← EO.out];exact Ea.2.2.1
   have wl:=Ea.lt
   clear hI hF hP HI0 HF0 DR
   by_cases hlt:i<e.more.length
   ·clear Ea FE
    rcases HO.out with hc | ⟨lb,lo,rfl,hc⟩
    ·rw [hc] at hlt;simp at hlt
    have k0:=hc i hlt
    have lbl:=ecell_in k0
    have k1:=(hB.cell (p:=⟨lb,lo + i,none⟩) lbl).trans k0
    have lb2:=ecell_in k1
    have KP:=Lib.hid (refPut_any _ P (e.more.getD i 0) wa HI.out HFr.out (by omega))
    have NX:=Lib.hid (fun r q=>HP.out.next (r:=r) hlt q)
    generalize e.more.getD i 0=x at k1 KP NX
    clear hc k0 lbl hB
    go_wp2_with fail
    clear c13 wl k1 lb2
    refine KP.out.mono ?_
    rintro y w3 ⟨u,r,rfl,g1,g2,g3,g4⟩
    have G1:=Lib.hid g1
    have G2:=Lib.hid g2
    have G3:=Lib.hid (NX.out r g3)
    have G4:=Lib.hid (HBa.out.trans (g4.mono HBa.out.size))
    clear g1 g2 g3 g4 KP NX HP HI HFr HBa
    go_wp2
    go_roundw
    case rel=>exact ⟨i + 1,r,by omega,by go_num,G1.out,G2.out,G3.out,G4.out⟩
    case measure=>simp [intOf];omega
   ·have ei:i=e.more.length:=by omega
    have HPE:=HP.out
    rw [ei] at HPE
    have FF:=Lib.hid (FE.out P HPE)
    have B3:=Lib.hid (B2.out.trans (hB.mono B2.out.size))
    have E3:=Lib.hid Ea
    obtain ⟨pa,pc,rfl,hpc⟩:=HI.out
    have HC:=Lib.hid hpc
    clear hpc HPE HP HI HFr HBa hB Ea FE ei B2 E2 HO
    go_wp2_with fail
    clear c13 wl
    go_loopw [11,12,13] (fun ov iv _ wr=>∃ i:Nat,i≤P.length∧iv=.int .i64 i∧wr.ownsRow wa.heap.size 3 1 ov (flt e fr t i P).length (nums (flt e fr t i P))∧Below wa.heap.size wa wr) (fun _ iv _ _=>P.length - (intOf iv).toNat)
    case atStart=>exact ⟨0,Nat.zero_le _,rfl,World.ownsRow_nil _ _ _ _,Below.refl _ _⟩
    case round=>
     obtain ⟨j,hj,rfl,hown,hB⟩:=hrel
     obtain ⟨wb,hwb⟩:=wnm hB
     subst hwb
     have HO:=Lib.hid hown
     have HBb:=Lib.hid hB
     have fl:=flt_len e fr t j P
     have szx:=hB.size
     clear hown
     by_cases hlt:j<P.length
     ·rcases HC.out with hc | ⟨lb,lo,rfl,hc⟩
      ·rw [hc] at hlt;simp at hlt
      have k0:=hc j hlt
      have lbl:=ecell_in k0
      have k1:=(hB.cell (p:=⟨lb,lo + j,none⟩) lbl).trans k0
      have lb2:=ecell_in k1
      obtain ⟨x,hx⟩:∃ x,x=P.getD j 0:=⟨_,rfl⟩
      have FY:=Lib.hid (fun q=>flt_yes (e:=e) (fr:=fr) (t:=t) hlt q)
      have FN:=Lib.hid (fun q=>flt_no (e:=e) (fr:=fr) (t:=t) hlt q)
      rw [← hx] at k1 FY FN
      have Eb:=E3.out.on hB
      have Vb:=(HV.out _ (B3.out.trans (hB.mono B3.out.size))).2.2.2.2.2.1
      have KI:=Lib.hid (fun q=>Zo.refIn_any s.vn e.nots x (wb.drewN q) (Vb.on (blw_drewN _ _ _)) (by omega))
      obtain ⟨an,cn,en,_⟩:=Vb
      have c14:wb.cell? ⟨w.heap.size,14,none⟩=some (.slice an e.nots.length cn):=by rw [← en];exact Eb.2.2.2.1
      rw [en] at KI
      have wl:=Eb.lt
      have KE:Hid (kee e fr t x=(!(e.nots.contains x) && (decide (fr≤x) && decide (x≤t)))):=Lib.hid rfl
      generalize kee e fr t x=KX at FY FN KE
      generalize e.nots.contains x=CX at KI KE
      generalize flt e fr t j P=xs at HO fl FY FN
      clear hc k0 lbl hx hB en Eb FF
      go_wp2_with fail
      go_quiet ((go_at_call 103;exact Calls.quiet_of_same (KI.out _)))
      have hbc:Below wb.heap.size wb (wb.drewN nq):=blw_drewN _ _ _
      have k2:(wb.drewN nq).cell? ⟨lb,lo + j,none⟩=some (.int .i64 x):=k1
      have lb3:lb<(wb.drewN nq).heap.size:=lb2
      have HOc:=Lib.hid (ow_below HO.out hbc)
      have HBc:=Lib.hid (HBb.out.trans (hbc.mono szx))
      generalize wb.drewN nq=wc at hbc k2 lb3 HOc HBc ⊢
      clear k1 lb2 c14 wl KI HO HBb hbc
      have szc:=HBc.out.size
      rcases hc1:CX with _ | _
      case true=>
       have N1:=Lib.hid (FN.out (by rw [KE.out,hc1];rfl))
       clear FN FY KE
       go_wp2
       go_roundw
       case rel=>exact ⟨j + 1,by omega,by go_num,by rw [N1.out];exact HOc.out,HBc.out⟩
       case measure=>simp [intOf];omega
      by_cases c2:fr≤x
      case neg=>
       have N1:=Lib.hid (FN.out (by rw [KE.out,hc1,decide_eq_false c2];rfl))
       clear FN FY KE
       go_wp2
       go_roundw
       case rel=>exact ⟨j + 1,by omega,by go_num,by rw [N1.out];exact HOc.out,HBc.out⟩
       case measure=>simp [intOf];omega
      by_cases c3:x≤t
      case neg=>
       have N1:=Lib.hid (FN.out (by rw [KE.out,hc1,decide_eq_true c2,decide_eq_false c3];rfl))
       clear FN FY KE
       go_wp2
       go_roundw
       case rel=>exact ⟨j + 1,by omega,by go_num,by rw [N1.out];exact HOc.out,HBc.out⟩
       case measure=>simp [intOf];omega
      have N1:=Lib.hid (FY.out (by rw [KE.out,hc1,decide_eq_true c2,decide_eq_true c3];rfl))
      clear FN FY KE
      go_wp2_with (at_builtin;refine wpList_append_own _ rfl _ _ 26 rfl wa.heap.size 3 i0 (.int .i64 0) 1 8 Tryz.underlying26 hi hz0 hz1 hz2 rfl (by decide) _ _ _ rfl (HOc.out.alloc _) ⟨wc.heap.size,0,none⟩ 1 1 [.int .i64 x] rfl rfl ?d1 ?d2 ?d3 ?d4 ?d5 ?_)
      case d1=>
       intro j u hj
       match j,hj with
       | 0,hj=>simp at hj;subst hj;simp [Addr.add]
      case d2=>intro u hu;simp at hu;subst hu;rfl
      case d3=>unfold maxLen;omega
      case d4=>omega
      case d5=>simp;omega
      intro v' w5 hown' hgrow _
      have Q2:=Lib.hid (ow_grow szc HBc.out (Below.refl _ _) HOc.out hgrow)
      have Q1:=Lib.hid hown'
      rw [← nums_snoc] at Q1
      clear hown' hgrow HOc k2
      go_wp2
      go_roundw
      case rel=>exact ⟨j + 1,by omega,by go_num,by rw [N1.out,List.length_append];exact Q1.out,Q2.out⟩
      case measure=>simp [intOf];omega
     ·have ej:j=P.length:=by omega
      have IS0:=ow_ints HO.out
      rw [ej,FF.out] at IS0
      have IS:=Lib.hid IS0
      have FR0:=own_frl HO.out
      rw [ej,FF.out] at FR0
      have FR:=Lib.hid FR0
      have B4:=Lib.hid (B3.out.trans (hB.mono B3.out.size))
      have FX:=Lib.hid (fun g (q:_=some g)=>Nat.le_trans B3.out.size (own_fre HO.out g q))
      clear IS0 FR0 HO hB ej
      go_wp2
      go_ret
      exact ⟨_,rfl,IS.out,B4.out,FR.out,FX.out⟩
theorem refLocal_own (e:Evt) (s:Evs) (fr t:Int) (w:World) (hv:EvB w e s) (h:evF e=0) (ht:t≤9223372036854775807) (ht2:-9223372036854775808≤t) :
 Calls Tryz.prog 56 #[.agg (ecells e s),.int .i64 fr,.int .i64 t] w fun x w'=>∃ v,x=.returned v∧Ints w' v (dcL e fr t)∧Below w.heap.size w w'∧Frl v (dcL e fr t):=
 (refLocal_fre e s fr t w hv h ht ht2).mono (fun _ _ ⟨v,h1,h2,h3,h4,_⟩=>⟨v,h1,h2,h3,h4⟩)
theorem refLocal_any (e:Evt) (s:Evs) (fr t:Int) (w:World) (hv:EvB w e s) (h:evF e=0) (ht:t≤9223372036854775807) (ht2:-9223372036854775808≤t) :
 Calls Tryz.prog 56 #[.agg (ecells e s),.int .i64 fr,.int .i64 t] w fun x w'=>∃ v,x=.returned v∧Ints w' v (dcL e fr t)∧Below w.heap.size w w':=
 (refLocal_own e s fr t w hv h ht ht2).mono (fun _ _ ⟨v,h1,h2,h3,_⟩=>⟨v,h1,h2,h3⟩)
end Go.Proofs.YtoncfgfjdlgfcaaGreatDoor
namespace Go.Proofs.YtoncfgfjdlgfcaaGreatDoor
open Go.RowKit Cal Txt
theorem ebox17 {X:World} {b:Nat} {e:Evt} {s:Evs} (h:EBox X b e s):(X.cell? ⟨b,0,none⟩=some (.string e.name)∧X.cell? ⟨b,1,none⟩=some (.string e.text)∧X.cell? ⟨b,2,none⟩=some (.int .i64 e.start)∧X.cell? ⟨b,3,none⟩=some (.int .i64 e.len)∧X.cell? ⟨b,4,none⟩=some (.bool e.rep)∧X.cell? ⟨b,5,none⟩=some (.int .i64 e.rule.freq)∧X.cell? ⟨b,6,none⟩=some (.int .i64 e.rule.every)∧X.cell? ⟨b,7,none⟩=some (.int .i64 e.rule.count)∧X.cell? ⟨b,8,none⟩=some (.int .i64 e.rule.till)∧X.cell? ⟨b,9,none⟩=some s.vm∧X.cell? ⟨b,10,none⟩=some s.vd∧X.cell? ⟨b,11,none⟩=some s.vw∧X.cell? ⟨b,12,none⟩=some s.vp∧X.cell? ⟨b,13,none⟩=some s.vo∧X.cell? ⟨b,14,none⟩=some s.vn∧X.cell? ⟨b,15,none⟩=some s.vc∧X.cell? ⟨b,16,none⟩=some s.va):=by
 obtain ⟨⟨a0,a1,a2,a3,a4⟩,⟨b0,b1,b2,b3,b4,b5,b6,b7⟩,c0,c1,c2,c3⟩:=h
 exact ⟨a0,a1,a2,a3,a4,b0,b1,b2,b3,b4,b5,b6,b7,c0,c1,c2,c3⟩
theorem own_tms {w:World} {n0 n:Nat} {v:Value} {l:List Tm} (h:w.ownsRow n0 44 3 v n (prt l)):Tms w v l:=by
 rcases own_times h with ⟨rfl,rfl⟩ | ⟨g,cap,rfl,_,_,hh⟩
 ·exact nil_tms w
 ·exact holds_times hh
end Go.Proofs.YtoncfgfjdlgfcaaGreatDoor
namespace Go.Proofs.YtoncfgfjdlgfcaaGreatDoor
open Go.RowKit Cal Txt
def chK (A:List Int) (l:List (Int × Int)) (k:Nat):List Int:=((l.take k).filter (fun c=>A.contains c.1)).map (fun c=>c.1)
def chD (e:Evt):List Int:=if e.chg.length=0 then [] else chK (dcL e 1 (e.chg.getD (e.chg.length - 1) (0,0)).1) e.chg e.chg.length
theorem chK_len (A:List Int) (l:List (Int × Int)) (k:Nat):(chK A l k).length≤k:=by
 unfold chK
 rw [List.length_map]
 refine Nat.le_trans (List.length_filter_le _ _) ?_
 rw [List.length_take];omega
theorem chK_yes {A:List Int} {l:List (Int × Int)} {k:Nat} (h:k<l.length) (q:A.contains (l.getD k (0,0)).1=true):chK A l (k + 1)=chK A l k++[(l.getD k (0,0)).1]:=by
 unfold chK
 rw [List.take_succ_eq_append_getElem h,List.filter_append,List.map_append]
 rw [List.getD_eq_getElem?_getD,List.getElem?_eq_getElem h] at q ⊢
 have q':A.contains l[k].1=true:=q
 simp only [List.filter_cons,q',if_true,List.filter_nil,List.map_cons,List.map_nil]
 rfl
theorem chK_no {A:List Int} {l:List (Int × Int)} {k:Nat} (h:k<l.length) (q:A.contains (l.getD k (0,0)).1=false):chK A l (k + 1)=chK A l k:=by
 unfold chK
 rw [List.take_succ_eq_append_getElem h,List.filter_append,List.map_append]
 rw [List.getD_eq_getElem?_getD,List.getElem?_eq_getElem h] at q
 have q':A.contains l[k].1=false:=q
 simp only [List.filter_cons,q',List.filter_nil]
 simp
theorem chD_mem {e:Evt} (h:evF e=0) (x:Int):x∈chD e↔isE e x∧∃ n,chOf e.chg x=some n:=by
 obtain ⟨h1,h2⟩:=evF_chg h
 have pw:=cri_pair h2
 unfold chD
 split
 ·rename_i q
  have q0:e.chg=[]:=List.eq_nil_of_length_eq_zero q
  constructor
  ·intro z;cases z
  ·rintro ⟨_,n,hn⟩
   rw [q0] at hn
   cases hn
 ·rename_i q
  unfold chK
  rw [List.take_length,List.mem_map]
  constructor
  ·rintro ⟨c,hc,rfl⟩
   obtain ⟨c1,c2⟩:=List.mem_filter.1 hc
   have c3:c.1∈dcL e 1 (e.chg.getD (e.chg.length - 1) (0,0)).1:=by simpa using c2
   exact ⟨((dcL_mem h).1 c3).1,c.2,chOf_of pw c1⟩
  ·rintro ⟨h3,n,hn⟩
   have m:=chOf_mem hn
   refine ⟨(x,n),List.mem_filter.2 ⟨m,?_⟩,rfl⟩
   have tm:ist x=true:=by
    have:=List.all_eq_true.1 h1 _ m
    unfold chB at this
    rw [Bool.and_eq_true] at this
    exact this.1
   have t1:=of_decide_eq_true tm
   have le:x≤(e.chg.getD (e.chg.length - 1) (0,0)).1:=by
    obtain ⟨i,hi,ei⟩:=List.getElem_of_mem m
    rw [List.getD_eq_getElem?_getD,List.getElem?_eq_getElem (by omega)]
    rcases (by omega:i=e.chg.length - 1∨i<e.chg.length - 1) with z | z
    ·subst z
     rw [show (some e.chg[e.chg.length - 1]).getD (0,0)=e.chg[e.chg.length - 1] from rfl,ei]
     exact Int.le_refl _
    ·have:=List.pairwise_iff_getElem.1 pw i (e.chg.length - 1) hi (by omega) z
     rw [ei] at this
     show x≤(e.chg[e.chg.length - 1]).1
     omega
   have:x∈dcL e 1 (e.chg.getD (e.chg.length - 1) (0,0)).1:=(dcL_mem h).2 ⟨h3,t1.1,le⟩
   simpa using this
set_option maxRecDepth 100000 in
set_option maxHeartbeats 8000000 in
theorem refChg_any (e:Evt) (s:Evs) (w:World) (hv:EvB w e s) (h:evF e=0) :
 Calls Tryz.prog 57 #[.agg (ecells e s)] w fun x w'=>∃ v,x=.returned v∧Ints w' v (chD e)∧Below w.heap.size w w':=by
 obtain ⟨i0,hi,hz0,hz1,hz2⟩:=info_parts info_ev_int
 obtain ⟨vm,vd,vw,vp,vo,vn,vc,va⟩:=s
 obtain ⟨ca,cc,ec,hc0⟩:=id hv.2.2.2.2.2.2.1
 have ec2:vc=.slice ca e.chg.length cc:=ec
 subst ec2
 obtain ⟨n,hn⟩:∃ n,n=e.chg.length:=⟨_,rfl⟩
 rw [← hn] at hv ⊢
 have HNN:=Lib.hid hn
 clear ec hc0
 have B0:=(Below.refl w.heap.size w).alloc (Nat.le_refl _) (.cells (ecells e ⟨vm,vd,vw,vp,vo,vn,.slice ca n cc,va⟩) 33)
 have R0:=EBox.new w e ⟨vm,vd,vw,vp,vo,vn,.slice ca n cc,va⟩ 33
 have HV:=Lib.hid (fun W (q:Below w.heap.size w W)=>hv.on q)
 obtain ⟨W0,hW⟩:∃ W0,W0=w.alloc (.cells (ecells e ⟨vm,vd,vw,vp,vo,vn,.slice ca n cc,va⟩) 33):=⟨_,rfl⟩
 rw [← hW] at B0 R0
 have HW:=Lib.hid hW
 have HB:=Lib.hid B0
 have HE:=Lib.hid R0
 have cl:=(evF_lens h).2.2.2.2.1
 have H0:=Lib.hid h
 obtain ⟨ca',cc',ec,hc⟩:=(hv.on B0).2.2.2.2.2.2.1
 obtain ⟨rfl,hx,rfl⟩:ca=ca'∧n=e.chg.length∧cc=cc':=by simpa using ec
 clear hx
 have c15:W0.cell? ⟨w.heap.size,15,none⟩=some (.slice ca n cc):=R0.2.2.2.2.1
 have rl:=R0.lt
 have CD0:Hid (e.chg.length=0→chD e=[]):=Lib.hid (fun q=>if_pos q)
 have CD1:Hid (¬ e.chg.length=0→chD e=chK (dcL e 1 (e.chg.getD (e.chg.length - 1) (0,0)).1) e.chg e.chg.length):=Lib.hid (fun q=>if_neg q)
 generalize chD e=RES at CD0 CD1 ⊢
 clear hv B0 R0 hW h ec hn
 go_enter Tryz.func57,Tryz.ntmps57
 go_upto_region 1 with fail
 rw [← HW.out]
 clear HW
 rcases Nat.eq_zero_or_pos e.chg.length with l0 | lp
 ·have N:=Lib.hid (CD0.out l0)
  have n0:n=0:=HNN.out.trans l0
  subst n0
  clear HNN
  clear CD0 CD1 hc l0
  go_wp2
  go_ret
  exact ⟨_,rfl,by rw [N.out];exact nil_int _,HB.out⟩
 rcases hc with hc | ⟨cb,co,rfl,hc⟩
 ·rw [hc] at lp;simp at lp
 have hn:=HNN.out
 obtain ⟨m,hm⟩:∃ m,e.chg.length=m + 1:=⟨e.chg.length - 1,by omega⟩
 have hm1:e.chg.length - 1=m:=by omega
 have N:=CD1.out (by omega)
 rw [hm1] at N
 have HN:=Lib.hid N
 have k1:=(hc m (by omega)).1
 have t1:ist (e.chg.getD m (0,0)).1=true:=by
  have mm:e.chg.getD m (0,0)∈e.chg:=by rw [List.getD_eq_getElem?_getD,List.getElem?_eq_getElem (by omega)];exact List.getElem_mem _
  have:=List.all_eq_true.1 (evF_chg H0.out).1 _ mm
  unfold chB at this
  rw [Bool.and_eq_true] at this
  exact this.1
 have t2:=of_decide_eq_true t1
 generalize (e.chg.getD m (0,0)).1=LA at k1 HN t2
 have KL:=Lib.hid (fun X (q:Below W0.heap.size W0 X)=>refLocal_any e ⟨vm,vd,vw,vp,vo,vn,.slice (some ⟨cb,co,none⟩) n cc,va⟩ 1 LA X (HV.out _ (HB.out.trans (q.mono HB.out.size))) H0.out (by omega) (by omega))
 have DL:=Lib.hid (dbL_len (t:=LA) H0.out)
 have HC:=Lib.hid hc
 have kl:=ecell_in k1
 have HS:Hid (∀ X,Below W0.heap.size W0 X→(X.cell? ⟨w.heap.size,0,none⟩=some (.string e.name)∧X.cell? ⟨w.heap.size,1,none⟩=some (.string e.text)∧X.cell? ⟨w.heap.size,2,none⟩=some (.int .i64 e.start)∧X.cell? ⟨w.heap.size,3,none⟩=some (.int .i64 e.len)∧X.cell? ⟨w.heap.size,4,none⟩=some (.bool e.rep)∧X.cell? ⟨w.heap.size,5,none⟩=some (.int .i64 e.rule.freq)∧X.cell? ⟨w.heap.size,6,none⟩=some (.int .i64 e.rule.every)∧X.cell? ⟨w.heap.size,7,none⟩=some (.int .i64 e.rule.count)∧X.cell? ⟨w.heap.size,8,none⟩=some (.int .i64 e.rule.till)∧X.cell? ⟨w.heap.size,9,none⟩=some vm∧X.cell? ⟨w.heap.size,10,none⟩=some vd∧X.cell? ⟨w.heap.size,11,none⟩=some vw∧X.cell? ⟨w.heap.size,12,none⟩=some vp∧X.cell? ⟨w.heap.size,13,none⟩=some vo∧X.cell? ⟨w.heap.size,14,none⟩=some vn∧X.cell? ⟨w.heap.size,15,none⟩=some (.slice (some ⟨cb,co,none⟩) n cc)∧X.cell? ⟨w.heap.size,16,none⟩=some va)∧X.cell? ⟨cb,co + m * 2,none⟩=some (.int .i64 LA)):=Lib.hid (fun X q=>by
  obtain ⟨a0,a1,a2,a3,a4,a5,a6,a7,a8,a9,a10,a11,a12,a13,a14,a15,a16⟩:=ebox17 (HE.out.on q)
  exact ⟨⟨a0,a1,a2,a3,a4,a5,a6,a7,a8,a9,a10,a11,a12,a13,a14,a15,a16⟩,(q.cell (p:=⟨cb,co + m * 2,none⟩) kl).trans k1⟩)
 have lne:((n:Int) == 0)=false:=by simp;omega
 have i1:(0:Int)≤(m:Int):=by omega
 have i2:(m:Int)<(n:Int):=by omega
 have i3:(n:Int) - 1=(m:Int):=by omega
 have i4:(0:Int)<(n:Int):=by omega
 have i5:0<n:=by omega
 have nl:n≤1000:=by omega
 have i7:m<n:=by omega
 have i8:IntKind.i64.wrap (m:Int)=(m:Int):=by rw [IntKind.wrap_i64];omega
 have i9:wrap64 (m:Int)=(m:Int):=by unfold wrap64;omega
 clear hc hm hm1 N k1 t1 t2 lp CD0 CD1 kl hn
 go_wp2_with fail
 go_region_held3 (fun X=>(X.cell? ⟨w.heap.size,0,none⟩=some (.string e.name)∧X.cell? ⟨w.heap.size,1,none⟩=some (.string e.text)∧X.cell? ⟨w.heap.size,2,none⟩=some (.int .i64 e.start)∧X.cell? ⟨w.heap.size,3,none⟩=some (.int .i64 e.len)∧X.cell? ⟨w.heap.size,4,none⟩=some (.bool e.rep)∧X.cell? ⟨w.heap.size,5,none⟩=some (.int .i64 e.rule.freq)∧X.cell? ⟨w.heap.size,6,none⟩=some (.int .i64 e.rule.every)∧X.cell? ⟨w.heap.size,7,none⟩=some (.int .i64 e.rule.count)∧X.cell? ⟨w.heap.size,8,none⟩=some (.int .i64 e.rule.till)∧X.cell? ⟨w.heap.size,9,none⟩=some vm∧X.cell? ⟨w.heap.size,10,none⟩=some vd∧X.cell? ⟨w.heap.size,11,none⟩=some vw∧X.cell? ⟨w.heap.size,12,none⟩=some vp∧X.cell? ⟨w.heap.size,13,none⟩=some vo∧X.cell? ⟨w.heap.size,14,none⟩=some vn∧X.cell? ⟨w.heap.size,15,none⟩=some (.slice (some ⟨cb,co,none⟩) n cc)∧X.cell? ⟨w.heap.size,16,none⟩=some va)∧X.cell? ⟨cb,co + m * 2,none⟩=some (.int .i64 LA))
  (first | exact HS.out _ hb3 | exact HS.out _ (Below.drew (Below.refl _ W0)))
  (first | (go_at_call 56;refine (KL.out _ (Below.drew (Below.refl _ W0))).mono ?_;rintro y w3 ⟨v3,rfl,hi3,hb3'⟩;have hb3:Below W0.heap.size W0 w3:=Below.trans (Below.drew (Below.refl _ W0)) hb3';have IA:=Lib.hid hi3;clear hb3' hi3))
 have HB3:=Lib.hid (HB.out.trans (hb3.mono HB.out.size))
 have E3:=Lib.hid (HE.out.on hb3)
 have AN:=Lib.hid (evL_len (fr:=1) (t:=LA) H0.out (show (dbL e LA).length≤200000 by have:=DL.out;omega))
 have EA:evL (dbL e LA) e 1 LA=dcL e 1 LA:=rfl
 rw [EA] at AN
 have C3:=Lib.hid (fun k (q:k<e.chg.length)=>(hb3.cell (p:=⟨cb,co + k * 2,none⟩) (ecell_in (HC.out k q).1)).trans (HC.out k q).1)
 have nn:=HNN.out
 have SZ:=Lib.hid HB3.out.size
 generalize dcL e 1 LA=AL at IA HN AN
 clear hb3 HS KL HB HE DL HC lne i1 i2 i3 i4 i5 i7 i8 i9 EA
 go_wp2_with fail
 go_loopw [4,5,6] (fun lv iv _ wr=>∃ k:Nat,k≤n∧iv=.int .i64 k∧wr.ownsRow w3.heap.size 3 1 lv (chK AL e.chg k).length (nums (chK AL e.chg k))∧Below w3.heap.size w3 wr) (fun _ iv _ _=>n - (intOf iv).toNat)
 case atStart=>exact ⟨0,Nat.zero_le _,rfl,World.ownsRow_nil _ _ _ _,Below.refl _ _⟩
 case round=>
  obtain ⟨k,hk,rfl,hown,hB⟩:=hrel
  have HO:=Lib.hid hown
  have HBr:=Lib.hid hB
  have d15:wr.cell? ⟨w.heap.size,15,none⟩=some (.slice (some ⟨cb,co,none⟩) n cc):=(E3.out.on hB).2.2.2.2.1
  have dl:=ecell_in d15
  have fl:=chK_len AL e.chg k
  by_cases hlt:k<n
  ·have ck:=(hB.cell (p:=⟨cb,co + k * 2,none⟩) (ecell_in (C3.out k (by omega)))).trans (C3.out k (by omega))
   have kl:=ecell_in ck
   have KY:=Lib.hid (fun q=>chK_yes (A:=AL) (l:=e.chg) (k:=k) (by omega) q)
   have KN:=Lib.hid (fun q=>chK_no (A:=AL) (l:=e.chg) (k:=k) (by omega) q)
   generalize (e.chg.getD k (0,0)).1=x at ck KY KN
   have KI:=Lib.hid (Zo.refIn_any v3 AL x wr (IA.out.on hB) (by have:=AN.out;omega))
   generalize chK AL e.chg k=XS at HO fl KY KN hown
   have sz:=hB.size
   clear hown hB nn
   rcases hi1:AL.contains x with _ | _
   ·have N1:=Lib.hid (KN.out hi1)
    rw [hi1] at KI
    clear KY KN hi1
    go_wp2_with (go_at_call 103;refine KI.out.mono ?_;rintro y w5 ⟨rfl,hw⟩;replace hw:=hw.symm;subst hw)
    go_roundw
    case rel=>exact ⟨k + 1,by omega,by go_num,by rw [N1.out];exact HO.out,HBr.out⟩
    case measure=>simp [intOf];omega
   ·have N1:=Lib.hid (KY.out hi1)
    rw [hi1] at KI
    clear KY KN hi1
    go_wp2_with (first | (go_at_call 103;refine KI.out.mono ?_;rintro y w5 ⟨rfl,hw⟩;replace hw:=hw.symm;subst hw) | (at_builtin;refine wpList_append_own _ rfl _ _ 26 rfl w3.heap.size 3 i0 (.int .i64 0) 1 8 Tryz.underlying26 hi hz0 hz1 hz2 rfl (by decide) _ _ _ rfl (HO.out.alloc _) ⟨wr.heap.size,0,none⟩ 1 1 [.int .i64 x] rfl rfl ?d1 ?d2 ?d3 ?d4 ?d5 ?_))
    case d1=>
     intro j u hj
     match j,hj with
     | 0,hj=>simp at hj;subst hj;simp [Addr.add]
    case d2=>intro u hu;simp at hu;subst hu;rfl
    case d3=>unfold maxLen;omega
    case d4=>omega
    case d5=>simp;omega
    intro v' w5 hown' hgrow _
    have Q2:=Lib.hid (ow_grow sz HBr.out (Below.refl _ _) HO.out hgrow)
    have Q1:=Lib.hid hown'
    rw [← nums_snoc] at Q1
    clear hown' hgrow HO ck
    go_wp2
    go_roundw
    case rel=>exact ⟨k + 1,by omega,by go_num,by rw [N1.out,List.length_append];exact Q1.out,Q2.out⟩
    case measure=>simp [intOf];omega
  ·have ek:k=e.chg.length:=by omega
   have IS0:=ow_ints HO.out
   rw [ek,← HN.out] at IS0
   have ZZ:=Lib.hid (And.intro IS0 (HB3.out.trans (hB.mono HB3.out.size)))
   clear IS0 HO hown ek hB
   go_wp2
   go_ret
   exact ⟨_,rfl,ZZ.out.1,ZZ.out.2⟩
end Go.Proofs.YtoncfgfjdlgfcaaGreatDoor
namespace Go.Proofs.YtoncfgfjdlgfcaaGreatDoor
open Go.RowKit Cal Txt
def pkO (a:Int) (l:List (Int × Int)) (e:Evt) (fr t:Int) (x:Int):Option Tm:=match tmO a l e x with | none=>none | some y=>if fr≤y.2.1∧y.2.1<t then some y else none
theorem tmO_some {a:Int} {l:List (Int × Int)} {e:Evt} {x:Int} {y:Tm} (h:tmO a l e x=some y):y.1=x∧∃ r,rea e x=some r∧tim a l e (x,r)=some y:=by
 unfold tmO at h
 split at h
 ·cases h
 ·rename_i r hr
  exact ⟨(tim_some h).1,r,hr,h⟩
theorem pkO_some {a:Int} {l:List (Int × Int)} {e:Evt} {fr t x:Int} {y:Tm}:pkO a l e fr t x=some y↔tmO a l e x=some y∧fr≤y.2.1∧y.2.1<t:=by
 unfold pkO
 split
 ·rename_i q;rw [q];simp
 ·rename_i z q
  rw [q]
  constructor
  ·intro h
   split at h
   ·rename_i g;cases h;exact ⟨rfl,g⟩
   ·cases h
  ·rintro ⟨h,g⟩
   cases h
   rw [if_pos g]
def BtI (a:Int) (l:List (Int × Int)) (e:Evt) (fr t:Int) (p:List Int) (i:Nat) (O:List Tm):Prop:=O.Pairwise ltT∧(∀ y,y∈O↔∃ x,x∈p.take i∧pkO a l e fr t x=some y)∧O.length≤i
theorem BtI.end {a:Int} {l:List (Int × Int)} {e:Evt} {fr t:Int} {p:List Int} {O:List Tm} (h:evF e=0) (hz:Zo.zf a l=0) (hp:∀ x,x∈p↔x∈dcL e (fr - 3000) (t + 3000)∨x∈chD e) (hO:BtI a l e fr t p p.length O):O=tmA a l e fr t:=by
 refine tm_ext hO.1 (tmA_rise h) (fun y=>?_)
 rw [hO.2.1 y,tmA_mem h hz,List.take_length]
 unfold isTm
 constructor
 ·rintro ⟨x,hx,hq⟩
  obtain ⟨q1,q2⟩:=pkO_some.1 hq
  obtain ⟨rfl,r,hr,ht⟩:=tmO_some q1
  refine ⟨?_,⟨r,hr,ht⟩,q2⟩
  rcases (hp _).1 hx with z | z
  ·exact ((dcL_mem h).1 z).1
  ·exact ((chD_mem h _).1 z).1
 ·rintro ⟨h1,⟨r,hr,ht⟩,h2,h3⟩
  refine ⟨y.1,(hp _).2 ?_,pkO_some.2 ⟨by unfold tmO;rw [hr];exact ht,h2,h3⟩⟩
  rcases q:chOf e.chg y.1 with _ | n
  ·left
   have hr2:r=y.1:=by
    unfold rea at hr
    rw [q] at hr
    simpa using hr.symm
   obtain ⟨_,t1,_,_⟩:=tim_some ht
   obtain ⟨_,t3⟩:=Zo.twi_mem.1 t1
   have t4:=Zo.zah_in hz (Zo.beg_le y.2.1 l)
   refine (dcL_mem h).2 ⟨h1,?_,?_⟩
   ·simp only at t3;omega
   ·simp only at t3;omega
  ·exact Or.inr ((chD_mem h _).2 ⟨h1,n,q⟩)
theorem BtI.start {a:Int} {l:List (Int × Int)} {e:Evt} {fr t:Int} {p:List Int}:BtI a l e fr t p 0 []:=⟨List.Pairwise.nil,fun y=>by simp,Nat.le_refl _⟩
theorem BtI.skip {a:Int} {l:List (Int × Int)} {e:Evt} {fr t:Int} {p:List Int} {i:Nat} {O:List Tm} (h:BtI a l e fr t p i O) (hi:i<p.length) (hq:pkO a l e fr t (p.getD i 0)=none):BtI a l e fr t p (i + 1) O:=by
 refine ⟨h.1,fun y=>?_,by have:=h.2.2;omega⟩
 rw [h.2.1 y,List.take_succ_eq_append_getElem hi]
 rw [List.getD_eq_getElem?_getD,List.getElem?_eq_getElem hi] at hq
 have hq':pkO a l e fr t p[i]=none:=hq
 constructor
 ·rintro ⟨x,hx,hy⟩;exact ⟨x,List.mem_append_left _ hx,hy⟩
 ·rintro ⟨x,hx,hy⟩
  rcases List.mem_append.1 hx with z | z
  ·exact ⟨x,z,hy⟩
  ·rw [List.mem_singleton.1 z,hq'] at hy;cases hy
theorem ins_rise {O:List Tm} {y:Tm} {k:Nat} (hO:O.Pairwise ltT) (hk:k≤O.length) (h1:∀ j,k≤j→j<O.length→ltT y (O.getD j (0,0,0))) (h2:0<k→ltT (O.getD (k - 1) (0,0,0)) y):(O.take k++y :: O.drop k).Pairwise ltT:=by
 have tr:∀ a b c:Tm,ltT a b→ltT b c→ltT a c:=fun a b c p q=>by unfold ltT at *;omega
 have lo:∀ x∈O.take k,ltT x y:=fun x hx=>by
  obtain ⟨i,hi,rfl⟩:=List.getElem_of_mem hx
  rw [List.length_take] at hi
  rw [List.getElem_take]
  have hk1:=h2 (by omega)
  rw [List.getD_eq_getElem?_getD,List.getElem?_eq_getElem (by omega)] at hk1
  rcases (by omega:i=k - 1∨i<k - 1) with z | z
  ·subst z;exact hk1
  ·exact tr _ _ _ (List.pairwise_iff_getElem.1 hO i (k - 1) (by omega) (by omega) z) hk1
 have up:∀ x∈O.drop k,ltT y x:=fun x hx=>by
  obtain ⟨i,hi,rfl⟩:=List.getElem_of_mem hx
  rw [List.length_drop] at hi
  rw [List.getElem_drop]
  have:=h1 (k + i) (by omega) (by omega)
  rwa [List.getD_eq_getElem?_getD,List.getElem?_eq_getElem (by omega)] at this
 rw [List.pairwise_append,List.pairwise_cons]
 refine ⟨hO.sublist (List.take_sublist k O),⟨up,hO.sublist (List.drop_sublist k O)⟩,fun x hx z hz=>?_⟩
 rcases List.mem_cons.1 hz with rfl | hz
 ·exact lo x hx
 ·exact tr _ _ _ (lo x hx) (up z hz)
theorem BtI.put {a:Int} {l:List (Int × Int)} {e:Evt} {fr t:Int} {p:List Int} {i k:Nat} {O:List Tm} {y:Tm} (h:BtI a l e fr t p i O) (hi:i<p.length) (hq:pkO a l e fr t (p.getD i 0)=some y) (hk:k≤O.length) (h1:∀ j,k≤j→j<O.length→ltT y (O.getD j (0,0,0))) (h2:0<k→ltT (O.getD (k - 1) (0,0,0)) y):BtI a l e fr t p (i + 1) (O.take k++y :: O.drop k):=by
 refine ⟨ins_rise h.1 hk h1 h2,fun z=>?_,by have:=h.2.2;simp;omega⟩
 rw [List.getD_eq_getElem?_getD,List.getElem?_eq_getElem hi] at hq
 have hq':pkO a l e fr t p[i]=some y:=hq
 have mem:z∈O.take k++y :: O.drop k↔z∈O∨z=y:=by
  rw [List.mem_append,List.mem_cons]
  constructor
  ·rintro (q | q | q)
   ·exact Or.inl (List.mem_of_mem_take q)
   ·exact Or.inr q
   ·exact Or.inl (List.mem_of_mem_drop q)
  ·rintro (q | q)
   ·rw [← List.take_append_drop k O,List.mem_append] at q
    rcases q with q | q
    ·exact Or.inl q
    ·exact Or.inr (Or.inr q)
   ·exact Or.inr (Or.inl q)
 rw [mem,h.2.1 z,List.take_succ_eq_append_getElem hi]
 constructor
 ·rintro (⟨x,hx,hy⟩ | rfl)
  ·exact ⟨x,List.mem_append_left _ hx,hy⟩
  ·exact ⟨p[i],List.mem_append_right _ (List.mem_singleton.2 rfl),hq'⟩
 ·rintro ⟨x,hx,hy⟩
  rcases List.mem_append.1 hx with q | q
  ·exact Or.inl ⟨x,q,hy⟩
  ·rw [List.mem_singleton.1 q,hq'] at hy
   exact Or.inr (Option.some.inj hy).symm
theorem BtI.other {a:Int} {l:List (Int × Int)} {e:Evt} {fr t:Int} {p:List Int} {i:Nat} {O:List Tm} {y:Tm} (h:BtI a l e fr t p i O) (hp:p.Pairwise (·<·)) (hi:i<p.length) (hq:pkO a l e fr t (p.getD i 0)=some y) {j:Nat} (hj:j<O.length):(O.getD j (0,0,0)).1≠y.1:=by
 have m:O.getD j (0,0,0)∈O:=by rw [List.getD_eq_getElem?_getD,List.getElem?_eq_getElem hj];exact List.getElem_mem hj
 obtain ⟨x,hx,hy⟩:=(h.2.1 _).1 m
 rw [(tmO_some (pkO_some.1 hy).1).1,(tmO_some (pkO_some.1 hq).1).1,List.getD_eq_getElem?_getD,List.getElem?_eq_getElem hi]
 obtain ⟨n,hn,rfl⟩:=List.getElem_of_mem hx
 rw [List.length_take] at hn
 rw [List.getElem_take]
 have:=List.pairwise_iff_getElem.1 hp n i (by omega) hi (by omega)
 show p[n]≠p[i]
 omega
theorem own_set3 {w:World} {n0 g cap n:Nat} {C:List Tm} (h:w.ownsRow n0 44 3 (.slice (some ⟨g,0,none⟩) n cap) n (prt C)) (j:Nat) (hj:j<C.length) (y:Tm):(w.setCells g (j * 3) (encT y)).ownsRow n0 44 3 (.slice (some ⟨g,0,none⟩) n cap) n (prt (C.set j y)):=by
 have h1:=(h.stored (j * 3) (.int .i64 y.1)).1
 have h2:=(h1.stored (j * 3 + 1) (.int .i64 y.2.1)).1
 have h3:=(h2.stored (j * 3 + 1 + 1) (.int .i64 y.2.2)).1
 have e:(((prt C).set (j * 3) (.int .i64 y.1)).set (j * 3 + 1) (.int .i64 y.2.1)).set (j * 3 + 1 + 1) (.int .i64 y.2.2)=prt (C.set j y):=by
  apply List.ext_getElem?
  intro i
  by_cases hi:i<C.length * 3
  ·have q:=prt_at (C.set j y) (i / 3) (i % 3) (by rw [List.length_set];omega) (by omega)
   have q0:=prt_at C (i / 3) (i % 3) (by omega) (by omega)
   rw [show i / 3 * 3 + i % 3=i by omega] at q q0
   have li:i<(prt C).length:=by rw [prt_len];exact hi
   rw [q]
   by_cases e1:i / 3=j
   ·have e2:(C.set j y).getD (i / 3) (0,0,0)=y:=by rw [e1,List.getD_eq_getElem?_getD,List.getElem?_set_self hj];rfl
    rw [e2]
    rcases (by omega:i=j * 3∨i=j * 3 + 1∨i=j * 3 + 1 + 1) with z | z | z
    ·subst z
     rw [List.getElem?_set_ne (by omega),List.getElem?_set_ne (by omega),List.getElem?_set_self li,show j * 3 % 3=0 by omega]
     rfl
    ·subst z
     rw [List.getElem?_set_ne (by omega),List.getElem?_set_self (by rw [List.length_set];exact li),show (j * 3 + 1) % 3=1 by omega]
     rfl
    ·subst z
     rw [List.getElem?_set_self (by rw [List.length_set,List.length_set];exact li),show (j * 3 + 1 + 1) % 3=2 by omega]
     rfl
   ·have e2:(C.set j y).getD (i / 3) (0,0,0)=C.getD (i / 3) (0,0,0):=by rw [List.getD_eq_getElem?_getD,List.getElem?_set_ne (by omega),← List.getD_eq_getElem?_getD]
    rw [e2,← q0,List.getElem?_set_ne (by omega),List.getElem?_set_ne (by omega),List.getElem?_set_ne (by omega)]
  ·rw [List.getElem?_eq_none (by simp [prt_len];omega),List.getElem?_eq_none (by simp [prt_len];omega)]
 rw [e] at h3
 exact h3
theorem gap_set {O:List Tm} {g:Tm} {j:Nat} (h0:0<j) (hj:j≤O.length):(O.take j++g :: O.drop j).set j (O.getD (j - 1) (0,0,0))=O.take (j - 1)++(O.getD (j - 1) (0,0,0)) :: O.drop (j - 1):=by
 have l1:(O.take j).length=j:=by rw [List.length_take];omega
 rw [List.set_append,if_neg (by omega),l1,Nat.sub_self,List.set_cons_zero]
 obtain ⟨m,rfl⟩:∃ m,j=m + 1:=⟨j - 1,by omega⟩
 rw [Nat.add_sub_cancel]
 have e1:O.getD m (0,0,0)=O[m]:=by rw [List.getD_eq_getElem?_getD,List.getElem?_eq_getElem (by omega)];rfl
 have e2:O.drop m=O[m] :: O.drop (m + 1):=List.drop_eq_getElem_cons (by omega)
 rw [e1,e2,List.take_succ_eq_append_getElem (show m<O.length by omega),List.append_assoc]
 rfl
theorem gap_fill {O:List Tm} {g y:Tm} {j:Nat} (hj:j≤O.length):(O.take j++g :: O.drop j).set j y=O.take j++y :: O.drop j:=by
 have l1:(O.take j).length=j:=by rw [List.length_take];omega
 rw [List.set_append,if_neg (by omega),l1,Nat.sub_self,List.set_cons_zero]
theorem gap_at {O:List Tm} {g:Tm} {j:Nat} (h0:0<j) (hj:j≤O.length):(O.take j++g :: O.drop j).getD (j - 1) (0,0,0)=O.getD (j - 1) (0,0,0):=by
 rw [List.getD_eq_getElem?_getD,List.getElem?_append_left (by rw [List.length_take];omega),List.getElem?_take,if_pos (by omega),← List.getD_eq_getElem?_getD]
theorem gap_start (O:List Tm) (y:Tm):O++[y]=O.take O.length++y :: O.drop O.length:=by simp
end Go.Proofs.YtoncfgfjdlgfcaaGreatDoor
namespace Go.Proofs.YtoncfgfjdlgfcaaGreatDoor
open Go.RowKit Cal Txt
def Tri3 (W:World) (b:Nat) (y:Tm):Prop:=W.cell? ⟨b,0,none⟩=some (.int .i64 y.1)∧W.cell? ⟨b,1,none⟩=some (.int .i64 y.2.1)∧W.cell? ⟨b,2,none⟩=some (.int .i64 y.2.2)
theorem z3_old3 {w w3:World} {t:TypeId} (h:Below (w.alloc (.cells #[.int .i64 0,.int .i64 0,.int .i64 0] t)).drew.heap.size (w.alloc (.cells #[.int .i64 0,.int .i64 0,.int .i64 0] t)).drew w3):Zr3 w3 w.heap.size∧w.heap.size<w3.heap.size:=by
 have q:Zr3 (w.alloc (.cells #[.int .i64 0,.int .i64 0,.int .i64 0] t)).drew w.heap.size:=by
  refine ⟨⟨?_,?_,?_⟩,?_,?_,?_⟩ <;> simp
 have r:=q.on h
 exact ⟨r,ecell_in r.1.1⟩
theorem wnm4 {n:Nat} {w w':World} (_:Below n w w'):∃ x,x=w':=⟨_,rfl⟩
theorem pk_off {a:Int} {l:List (Int × Int)} {e:Evt} {fr t x:Int} (h:tmO a l e x=none):pkO a l e fr t x=none:=by unfold pkO;rw [h]
theorem pk_out {a:Int} {l:List (Int × Int)} {e:Evt} {fr t x:Int} {T:Tm} (h:tmO a l e x=some T) (q:¬ (fr≤T.2.1∧T.2.1<t)):pkO a l e fr t x=none:=by unfold pkO;rw [h];exact if_neg q
theorem tm_store {ops:Array Oper} {rest:List Oper} {op:Oper} {a:Act} {W:World} {Q:Exit→Act→World→Prop} (hgd:op.guard=none) (x y:Operand) (ho:op.op=.store 44 x y) (hd:op.dst=none)
 (b o:Nat) (c:Tm) (hx:a.eval x=.pointer (some ⟨b,o,none⟩)) (hy:a.eval y=.agg #[.int .i64 c.1,.int .i64 c.2.1,.int .i64 c.2.2]) (ht:W.there b o 3)
 (h:wpList Tryz.prog ops Q rest a (W.setCells b o (encT c))):wpList Tryz.prog ops Q (op :: rest) a W:=by
 refine wpList_store_mid hgd 44 x y ho b o #[.int .i64 c.1,.int .i64 c.2.1,.int .i64 c.2.2] hx hy ht (by kernel_rfl) (by simp [Value.oneCell']) ?_
 rw [hd]
 exact h
theorem own_there3 {w:World} {n0 g cap n:Nat} {C:List Tm} (h:w.ownsRow n0 44 3 (.slice (some ⟨g,0,none⟩) n cap) n (prt C)) (j:Nat) (hj:j<n):w.there g (j * 3) 3:=fun c hc=>by
 have hl:(prt C).length=n * 3:=h.1
 have e:w.cell? ⟨g,j * 3 + c,none⟩=(prt C)[j * 3 + c]?:=h.cellAt (j * 3 + c) (by omega)
 exact ⟨by rw [e,List.getElem?_eq_getElem (by omega)];rfl,h.frozenAt _⟩
theorem own_cells3 {w:World} {n0 g cap n:Nat} {C:List Tm} (h:w.ownsRow n0 44 3 (.slice (some ⟨g,0,none⟩) n cap) n (prt C)) (j:Nat) (hj:j<C.length):w.cell? ⟨g,j * 3,none⟩=some (.int .i64 (C.getD j (0,0,0)).1)∧w.cell? ⟨g,j * 3 + 1,none⟩=some (.int .i64 (C.getD j (0,0,0)).2.1)∧w.cell? ⟨g,j * 3 + 2,none⟩=some (.int .i64 (C.getD j (0,0,0)).2.2):=by
 have hl:C.length * 3=n * 3:=by rw [← prt_len];exact h.1
 refine ⟨?_,?_,?_⟩
 ·have:=(h.cellAt (j * 3 + 0) (by omega)).trans (prt_at C j 0 hj (by omega));exact this
 ·exact (h.cellAt (j * 3 + 1) (by omega)).trans (prt_at C j 1 hj (by omega))
 ·exact (h.cellAt (j * 3 + 2) (by omega)).trans (prt_at C j 2 hj (by omega))
theorem Tri3.cells {W:World} {b g o:Nat} {y:Tm} (h:Tri3 W b y) (hb:g≠b) (vs:List Value):Tri3 (W.setCells g o vs) b y:=
 ⟨(World.cell?_setCells_out g vs o W ⟨b,0,none⟩ (fun q _=>absurd q.symm hb)).trans h.1,(World.cell?_setCells_out g vs o W ⟨b,1,none⟩ (fun q _=>absurd q.symm hb)).trans h.2.1,(World.cell?_setCells_out g vs o W ⟨b,2,none⟩ (fun q _=>absurd q.symm hb)).trans h.2.2⟩
theorem ap_three (w:World) (x y z:Value) (t:TypeId):∀ (j:Nat) (u:Value),([x,y,z]:List Value)[j]?=some u→(w.alloc (.cells #[x,y,z] t)).cell? ((⟨w.heap.size,0,none⟩:Addr).add j)=some u:=by
 intro j u hj
 match j,hj with
 | 0,hj=>simp at hj;subst hj;simp [Addr.add]
 | 1,hj=>simp at hj;subst hj;simp [Addr.add]
 | 2,hj=>simp at hj;subst hj;simp [Addr.add]
theorem ap_cell3 (x y z:Int):∀ u∈[Value.int .i64 x,.int .i64 y,.int .i64 z],u.oneCell'=true:=by intro u hu;simp at hu;rcases hu with rfl | rfl | rfl <;> rfl
theorem gap_len (O:List Tm) (g:Tm) (j:Nat) (hj:j≤O.length):(O.take j++g :: O.drop j).length=O.length + 1:=by
 rw [List.length_append,List.length_cons,List.length_take,List.length_drop];omega
def RbO (a:Int) (l:List (Int × Int)) (e:Evt) (fr t:Int) (w:World) (x:Ending) (w':World):Prop:=∃ u,x=.returned u∧Tms w' u (tmA a l e fr t)∧Below w.heap.size w w'∧∀ g,u.ownBlock=some g→w.heap.size≤g∧g<w'.heap.size
set_option maxRecDepth 100000 in
set_option maxHeartbeats 16000000 in
theorem refBtw_own (a:Int) (l:List (Int × Int)) (v:Value) (e:Evt) (s:Evs) (fr t:Int) (w:World) (hz:ZoneIn w v a l) (hf:Zo.zf a l=0) (hv:EvB w e s) (h:evF e=0) (o1:-1000000000≤fr) (o2:fr≤1000000000) (o3:-1000000000≤t) (o4:t≤1000000000) :
 Calls Tryz.prog 47 #[v,.agg (ecells e s),.int .i64 fr,.int .i64 t] w (RbO a l e fr t w):=by
 obtain ⟨i0,hi0,hz0,hz1,hz2⟩:=info_parts info_ti_tm
 have HZ:=Lib.hid (fun W (q:Below w.heap.size w W)=>hz.on q)
 have HV:=Lib.hid (fun W (q:Below w.heap.size w W)=>hv.on q)
 obtain ⟨sa,sc,rfl⟩:=hz.form
 obtain ⟨W0,hW,B0,zz,Z0,R0⟩:=two_boxes w a l sa sc e s
 have HW:=Lib.hid hW
 have HB:=Lib.hid B0
 have HE:=Lib.hid R0
 have HX:=Lib.hid Z0
 have H0:=Lib.hid h
 have HF:=Lib.hid hf
 have K1:=Lib.hid (refLocal_own e s (fr - 3000) (t + 3000) W0 (hv.on B0) h (by omega) (by omega))
 have KC:=Lib.hid (fun W (q:Below w.heap.size w W)=>refChg_any e s W (HV.out _ q) H0.out)
 have DR:=Lib.hid (dcL_rise e (fr - 3000) (t + 3000))
 have DN:=Lib.hid (evL_len (fr:=fr - 3000) (t:=t + 3000) h (show (dbL e (t + 3000)).length≤200000 by have:=dbL_len (t:=t + 3000) h;omega))
 have CN:Hid ((chD e).length≤100):=Lib.hid (by
  have cl:=(evF_lens h).2.2.2.2.1
  unfold chD
  split
  ·simp
  ·exact Nat.le_trans (chK_len _ _ _) cl)
 have EN:=Lib.hid (fun p O hp hO=>BtI.end (a:=a) (l:=l) (e:=e) (fr:=fr) (t:=t) (p:=p) (O:=O) h hf hp hO)
 have PS:=Lib.hid (fun x (q:isE e x) r hr=>rea_time (e:=e) (x:=x) (r:=r) h q hr)
 have ED:evL (dbL e (t + 3000)) e (fr - 3000) (t + 3000)=dcL e (fr - 3000) (t + 3000):=rfl
 rw [ED] at DN
 have DM:=Lib.hid (fun x (q:x∈dcL e (fr - 3000) (t + 3000))=>((dcL_mem h).1 q).1)
 have CM:=Lib.hid (fun x (q:x∈chD e)=>((chD_mem h x).1 q).1)
 generalize dcL e (fr - 3000) (t + 3000)=D at K1 DR DN EN DM
 generalize chD e=CH at KC CN EN CM
 clear hz hv hW B0 zz Z0 R0 h hf ED
 go_enter Tryz.func47,Tryz.ntmps47
 go_upto_region 1 with fail
 rw [← HW.out]
 clear HW
 go_wp2_with (refine ev_load (by rfl) (.tmp 5) (by rfl) (w.heap.size + 1) e s (by rfl) HE.out ?_)
 refine K1.out.mono ?_
 rintro y w1 ⟨v1,rfl,hi1,hb,hf1⟩
 have B1:=Lib.hid (HB.out.trans (hb.mono HB.out.size))
 have E1:=Lib.hid (HE.out.on hb)
 have X1:=Lib.hid (HX.out.on hb)
 have I1:=Lib.hid hi1
 have F1:=Lib.hid hf1
 clear hb hi1 hf1 K1 HB HE HX
 have K2:=Lib.hid (KC.out _ B1.out)
 clear KC
 go_wp2_with (refine ev_load (by rfl) (.tmp 5) (by rfl) (w.heap.size + 1) e s (by rfl) E1.out ?_)
 refine K2.out.mono ?_
 rintro y w2 ⟨v2,rfl,hi2,hb⟩
 have B2:=Lib.hid (B1.out.trans (hb.mono B1.out.size))
 have E2:=Lib.hid (E1.out.on hb)
 have X2:=Lib.hid (X1.out.on hb)
 have I2:=Lib.hid (I1.out.on hb)
 have C2:=Lib.hid hi2
 obtain ⟨ca,cc,rfl,hc⟩:=hi2
 have HC:=Lib.hid hc
 clear hb hc K2 B1 E1 X1 I1
 go_wp2_with fail
 go_loopw [9,11] (fun lv iv wr=>∃ k:Nat,k≤CH.length∧iv=.int .i64 k∧(∃ p,Ints wr lv p∧Frl lv p∧PutI D CH k p)∧Below w2.heap.size w2 wr) (fun _ iv _=>CH.length - (intOf iv).toNat)
 case atStart=>exact ⟨0,Nat.zero_le _,rfl,⟨D,I2.out,F1.out,PutI.start DR.out⟩,Below.refl _ _⟩
 case round=>
  obtain ⟨k,hk,rfl,⟨p,hp1,hp2,hp3⟩,hB⟩:=hrel
  have HBr:=Lib.hid hB
  have cn:=CN.out
  by_cases hlt:k<CH.length
  ·rcases HC.out with hc | ⟨cb,co,rfl,hc⟩
   ·rw [hc] at hlt;simp at hlt
   have ck:=(hB.cell (p:=⟨cb,co + k,none⟩) (ecell_in (hc k hlt))).trans (hc k hlt)
   have kl:=ecell_in ck
   have KP:=Lib.hid (refPut_any _ p (CH.getD k 0) wr hp1 hp2 (by have:=hp3.2.2;have:=DN.out;omega))
   have NX:=Lib.hid (fun r (q:PutR p (CH.getD k 0) r)=>hp3.next hlt q)
   generalize CH.getD k 0=x at ck KP NX
   clear hc hp1 hp2 hp3 hB
   go_wp2_with fail
   clear ck kl
   refine KP.out.mono ?_
   rintro y w4 ⟨u4,r4,rfl,h1,h2,h3,hb⟩
   have Q:=Lib.hid (show ∃ p,Ints w4 u4 p∧Frl u4 p∧PutI D CH (k + 1) p from ⟨r4,h1,h2,NX.out r4 h3⟩)
   have B4:=Lib.hid (HBr.out.trans (hb.mono HBr.out.size))
   clear h1 h2 h3 hb KP NX
   go_wp2
   go_roundw
   case rel=>exact ⟨k + 1,by omega,by go_num,Q.out,B4.out⟩
   case measure=>simp [intOf];omega
  ·have ek:k=CH.length:=by omega
   rw [ek] at hp3
   obtain ⟨pr,pm,pn⟩:=hp3
   have PM:Hid (∀ x,x∈p↔x∈D∨x∈CH):=Lib.hid (fun x=>by rw [pm x,List.take_length])
   have PR:=Lib.hid pr
   have PN:p.length≤200300:=by have:=DN.out;omega
   have PE:=Lib.hid (fun O hO=>EN.out p O PM.out hO)
   have PT:=Lib.hid (fun x (q:x∈p) r hr=>PS.out x ((PM.out x).1 q |>.elim (DM.out x) (CM.out x)) r hr)
   obtain ⟨w3,rfl⟩:∃ w3,w3=wr:=⟨_,rfl⟩
   have B3:=Lib.hid (B2.out.trans (hB.mono B2.out.size))
   have E3:=Lib.hid (E2.out.on hB)
   have X3:=Lib.hid (X2.out.on hB)
   obtain ⟨pa,pc,rfl,hpc⟩:=hp1
   have HP:=Lib.hid hpc
   clear hp2 pr pm pn hB HBr HC C2 I2 F1 E2 X2 B2 hpc cn ek DR DN CN EN PS DM CM
   go_wp2_with fail
   go_loopw [12,13,14,15,16,17] (fun lv iv _ _ _ _ wr=>∃ i:Nat,i≤p.length∧iv=.int .i64 i∧(∃ O,BtI a l e fr t p i O∧wr.ownsRow w3.heap.size 44 3 lv O.length (prt O))∧Below w3.heap.size w3 wr) (fun _ iv _ _ _ _ _=>p.length - (intOf iv).toNat)
   case atStart=>exact ⟨0,Nat.zero_le _,rfl,⟨[],BtI.start,World.ownsRow_nil _ _ _ _⟩,Below.refl _ _⟩
   case round=>
    obtain ⟨i,hi,rfl,⟨O,hO,hown⟩,hB⟩:=hrel
    obtain ⟨wx,hwx⟩:=wnm4 hB
    subst hwx
    have HBr:=Lib.hid hB
    have HOw:=Lib.hid hown
    have HBI:=Lib.hid hO
    by_cases hlt:i<p.length
    ·rcases HP.out with hc | ⟨pb,po,rfl,hc⟩
     ·rw [hc] at hlt;simp at hlt
     have xm:p.getD i 0∈p:=by rw [List.getD_eq_getElem?_getD,List.getElem?_eq_getElem hlt];exact List.getElem_mem hlt
     have c0:=hc i hlt
     have KX:=Lib.hid (PT.out _ xm)
     have bw:=B3.out.trans (hB.mono B3.out.size)
     have KT:=Lib.hid (fun W (q:Below wx.heap.size wx W)=>refTm_any a l _ e s (p.getD i 0) W (HZ.out _ (bw.trans (q.mono bw.size))) HF.out (HV.out _ (bw.trans (q.mono bw.size))) H0.out KX.out)
     have SK:=Lib.hid (fun q=>hO.skip hlt q)
     have PU:=Lib.hid (fun y k q=>hO.put (y:=y) (k:=k) hlt q)
     have OT:=Lib.hid (fun y q j hj=>hO.other (y:=y) PR.out hlt q (j:=j) hj)
     have OL:=hO.2.2
     generalize p.getD i 0=x at c0 KT SK PU OT
     have HS:Hid (∀ X,Below wx.heap.size wx X→(X.cell? ⟨w.heap.size + 1,0,none⟩=some (.string e.name)∧X.cell? ⟨w.heap.size + 1,1,none⟩=some (.string e.text)∧X.cell? ⟨w.heap.size + 1,2,none⟩=some (.int .i64 e.start)∧X.cell? ⟨w.heap.size + 1,3,none⟩=some (.int .i64 e.len)∧X.cell? ⟨w.heap.size + 1,4,none⟩=some (.bool e.rep)∧X.cell? ⟨w.heap.size + 1,5,none⟩=some (.int .i64 e.rule.freq)∧X.cell? ⟨w.heap.size + 1,6,none⟩=some (.int .i64 e.rule.every)∧X.cell? ⟨w.heap.size + 1,7,none⟩=some (.int .i64 e.rule.count)∧X.cell? ⟨w.heap.size + 1,8,none⟩=some (.int .i64 e.rule.till)∧X.cell? ⟨w.heap.size + 1,9,none⟩=some s.vm∧X.cell? ⟨w.heap.size + 1,10,none⟩=some s.vd∧X.cell? ⟨w.heap.size + 1,11,none⟩=some s.vw∧X.cell? ⟨w.heap.size + 1,12,none⟩=some s.vp∧X.cell? ⟨w.heap.size + 1,13,none⟩=some s.vo∧X.cell? ⟨w.heap.size + 1,14,none⟩=some s.vn∧X.cell? ⟨w.heap.size + 1,15,none⟩=some s.vc∧X.cell? ⟨w.heap.size + 1,16,none⟩=some s.va)∧(X.cell? ⟨w.heap.size,0,none⟩=some (.int .i64 a)∧X.cell? ⟨w.heap.size,1,none⟩=some (.slice sa l.length sc))∧X.cell? ⟨pb,po + i,none⟩=some (.int .i64 x)):=Lib.hid (fun X q=>by
      have q3:=hB.trans (q.mono hB.size)
      exact ⟨ebox17 (E3.out.on q3),X3.out.on q3,(q3.cell (p:=⟨pb,po + i,none⟩) (ecell_in c0)).trans c0⟩)
     clear hc xm c0 KX bw hO hown hB
     go_upto_region 11 with fail
     go_cut [14,15] from 38 to 130 (fun s14 s15 wy=>∃ (bx:Nat) (T:Tm) (ok:Bool),s14=.pointer (some ⟨bx,0,none⟩)∧s15=.bool ok∧tmO a l e x=(if ok=true then some T else none)∧wx.heap.size≤bx∧Tri3 wy bx T∧Below wx.heap.size wx wy)
     case first=>
      go_region_held3 (fun X=>(X.cell? ⟨w.heap.size + 1,0,none⟩=some (.string e.name)∧X.cell? ⟨w.heap.size + 1,1,none⟩=some (.string e.text)∧X.cell? ⟨w.heap.size + 1,2,none⟩=some (.int .i64 e.start)∧X.cell? ⟨w.heap.size + 1,3,none⟩=some (.int .i64 e.len)∧X.cell? ⟨w.heap.size + 1,4,none⟩=some (.bool e.rep)∧X.cell? ⟨w.heap.size + 1,5,none⟩=some (.int .i64 e.rule.freq)∧X.cell? ⟨w.heap.size + 1,6,none⟩=some (.int .i64 e.rule.every)∧X.cell? ⟨w.heap.size + 1,7,none⟩=some (.int .i64 e.rule.count)∧X.cell? ⟨w.heap.size + 1,8,none⟩=some (.int .i64 e.rule.till)∧X.cell? ⟨w.heap.size + 1,9,none⟩=some s.vm∧X.cell? ⟨w.heap.size + 1,10,none⟩=some s.vd∧X.cell? ⟨w.heap.size + 1,11,none⟩=some s.vw∧X.cell? ⟨w.heap.size + 1,12,none⟩=some s.vp∧X.cell? ⟨w.heap.size + 1,13,none⟩=some s.vo∧X.cell? ⟨w.heap.size + 1,14,none⟩=some s.vn∧X.cell? ⟨w.heap.size + 1,15,none⟩=some s.vc∧X.cell? ⟨w.heap.size + 1,16,none⟩=some s.va)∧(X.cell? ⟨w.heap.size,0,none⟩=some (.int .i64 a)∧X.cell? ⟨w.heap.size,1,none⟩=some (.slice sa l.length sc))∧X.cell? ⟨pb,po + i,none⟩=some (.int .i64 x))
       (first | exact HS.out _ (Below.drew (Below.refl _ wx)) | exact HS.out _ hb3 | exact HS.out _ (Below.alloc hb3 (Below.size hb3) _) | exact HS.out _ (Below.drew (Below.alloc (Below.refl _ wx) (Nat.le_refl _) _)) | exact HS.out _ (Below.setCell hb3 (Nat.le_refl _) _) | exact HS.out _ (Below.setCell (Below.setCell hb3 (Nat.le_refl _) _) (Nat.le_refl _) _) | exact HS.out _ (Below.setCell (Below.setCell (Below.setCell hb3 (Nat.le_refl _) _) (Nat.le_refl _) _) (Nat.le_refl _) _))
       (first
       | (go_at_call 96;refine (KT.out _ (Below.drew (Below.refl _ wx))).mono ?_;rintro y w5 ⟨T,ok,rfl,hT,hb3'⟩;have hb3:Below wx.heap.size wx w5:=Below.trans (Below.drew (Below.refl _ wx)) hb3';have HTO:=Lib.hid hT;clear hb3' hT)
       | (go_at_call 96;refine (KT.out _ (Below.drew (Below.alloc (Below.refl _ wx) (Nat.le_refl _) _))).mono ?_;rintro y w5 ⟨T,ok,rfl,hT,hb3'⟩;have hb3:Below wx.heap.size wx w5:=Below.trans (Below.drew (Below.alloc (Below.refl _ wx) (Nat.le_refl _) _)) (Below.mono hb3' (by simp));obtain ⟨⟨⟨zc0,zc1,zc2⟩,zf0,zf1,zf2⟩,zlt⟩:=z3_old3 hb3';have HTO:=Lib.hid hT;clear hb3' hT))
      ·have hA:Below wx.heap.size wx (w5.alloc (.cells #[.int .i64 T.1,.int .i64 T.2.1,.int .i64 T.2.2] 44)):=hb3.alloc hb3.size _
       have TA:Tri3 (w5.alloc (.cells #[.int .i64 T.1,.int .i64 T.2.1,.int .i64 T.2.2] 44)) w5.heap.size T:=by refine ⟨?_,?_,?_⟩ <;> simp
       have QA:=Lib.hid (And.intro TA (And.intro hA hb3.size))
       clear hA TA hb3 HS KT
       go_wp2
       go_meet
       case rel=>exact ⟨_,T,ok,rfl,rfl,HTO.out,QA.out.2.2,QA.out.1,QA.out.2.1⟩
      ·have hA:Below wx.heap.size wx (((w5.setCell ⟨wx.heap.size,0,none⟩ (.int .i64 T.1)).setCell ⟨wx.heap.size,1,none⟩ (.int .i64 T.2.1)).setCell ⟨wx.heap.size,2,none⟩ (.int .i64 T.2.2)):=((hb3.setCell (p:=⟨wx.heap.size,0,none⟩) (Nat.le_refl _) _).setCell (p:=⟨wx.heap.size,1,none⟩) (Nat.le_refl _) _).setCell (p:=⟨wx.heap.size,2,none⟩) (Nat.le_refl _) _
       have TA:Tri3 (((w5.setCell ⟨wx.heap.size,0,none⟩ (.int .i64 T.1)).setCell ⟨wx.heap.size,1,none⟩ (.int .i64 T.2.1)).setCell ⟨wx.heap.size,2,none⟩ (.int .i64 T.2.2)) wx.heap.size T:=by
        refine ⟨?_,?_,?_⟩
        ·rw [World.cell?_setCell_other _ _ _ _ (by simp),World.cell?_setCell_other _ _ _ _ (by simp)]
         exact World.cell?_setCell_same _ _ _ zc0
        ·rw [World.cell?_setCell_other _ _ _ _ (by simp)]
         exact World.cell?_setCell_same _ _ _ ((World.cell?_setCell_other _ _ _ _ (by simp)).trans zc1)
        ·exact World.cell?_setCell_same _ _ _ ((World.cell?_setCell_other _ _ _ _ (by simp)).trans ((World.cell?_setCell_other _ _ _ _ (by simp)).trans zc2))
       have QA:=Lib.hid (And.intro TA hA)
       clear hA TA hb3 HS KT
       go_wp2
       go_meet
       case rel=>exact ⟨_,T,ok,rfl,rfl,HTO.out,Nat.le_refl _,QA.out.1,QA.out.2⟩
     case rest=>
     obtain ⟨bx,T,ok,rfl,rfl,hT,hbx,tri,hb⟩:=hcut
     obtain ⟨W4,hW4⟩:=wnm4 hb
     subst hW4
     have B4:=Lib.hid (HBr.out.trans (hb.mono HBr.out.size))
     have O4:=Lib.hid (ow_below HOw.out hb)
     obtain ⟨t0,t1,t2⟩:=tri
     have tl:=ecell_in t0
     rcases ok with _ | _
     ·have N:=Lib.hid (SK.out (pk_off hT))
      clear SK PU OT hT t0 t1 t2 tl
      go_wp2
      go_roundw
      case rel=>exact ⟨i + 1,by omega,by go_num,⟨O,N.out,O4.out⟩,B4.out⟩
      case measure=>simp [intOf];omega
     have hT2:tmO a l e x=some T:=hT
     by_cases g1:T.2.1<fr
     ·have N:=Lib.hid (SK.out (pk_out hT2 (by omega)))
      clear SK PU OT hT hT2
      go_wp2
      go_roundw
      case rel=>exact ⟨i + 1,by omega,by go_num,⟨O,N.out,O4.out⟩,B4.out⟩
      case measure=>simp [intOf];omega
     by_cases g2:t≤T.2.1
     ·have N:=Lib.hid (SK.out (pk_out hT2 (by omega)))
      clear SK PU OT hT hT2
      go_wp2
      go_roundw
      case rel=>exact ⟨i + 1,by omega,by go_num,⟨O,N.out,O4.out⟩,B4.out⟩
      case measure=>simp [intOf];omega
     have pk:=pkO_some.2 ⟨hT2,show fr≤T.2.1 by omega,show T.2.1<t by omega⟩
     have PUT:=Lib.hid (fun k=>PU.out T k pk)
     have OTH:=Lib.hid (fun j hj=>OT.out T pk j hj)
     obtain ⟨oa,oc,eo,hoc⟩:=own_tms O4.out
     have NE:=Lib.hid (fun (z:_=some bx)=>show False by have:=(HOw.out.lt bx z).2;omega)
     subst eo
     have HOC:=Lib.hid hoc
     have TRI:=Lib.hid (show Tri3 W4 bx T from ⟨t0,t1,t2⟩)
     clear SK PU OT hT hT2 pk hoc
     obtain ⟨T1,T2,T3⟩:=T
     dsimp only at t0 t1 t2 g1 g2
     go_upto_block 4 with fail
     clear t0 t1 t2 tl
     go_cut [16] from 38 to 130 (fun s16 wy=>∃ k:Nat,s16=.int .i64 k∧k≤O.length∧(∀ j,k≤j→j<O.length→ltT (T1,T2,T3) (O.getD j (0,0,0)))∧(0<k→ltT (O.getD (k - 1) (0,0,0)) (T1,T2,T3))∧Dra W4 wy)
     case first=>
      go_wp2_with fail
      go_loopw [16] (fun kv wq=>∃ k:Nat,k≤O.length∧kv=.int .i64 k∧(∀ j,k≤j→j<O.length→ltT (T1,T2,T3) (O.getD j (0,0,0)))∧Dra W4 wq) (fun kv _=>(intOf kv).toNat)
      case atStart=>exact ⟨O.length,Nat.le_refl _,rfl,fun j h1 h2=>by omega,Dra.refl _⟩
      case round=>
       obtain ⟨k,hk,rfl,hgt,hD⟩:=hrel
       obtain ⟨wq,hwq⟩:=wnm4 (hD.below 0)
       subst hwq
       have HD:=Lib.hid hD
       have GT:=Lib.hid hgt
       have t0:=(HD.out.cell ⟨bx,0,none⟩).trans TRI.out.1
       have t1:=(HD.out.cell ⟨bx,1,none⟩).trans TRI.out.2.1
       have tl:=ecell_in t0
       clear hD hgt
       have HK:=Lib.hid hk
       rcases Nat.eq_zero_or_pos k with h0 | h0
       ·have H2:Hid (0<k→ltT (O.getD (k - 1) (0,0,0)) (T1,T2,T3)):=Lib.hid (fun q=>by omega)
        have d1:decide ((k:Int) > 0)=false:=decide_eq_false (by omega)
        have d2:decide ((0:Int)<(k:Int))=false:=decide_eq_false (by omega)
        have d3:decide (0<k)=false:=decide_eq_false (by omega)
        clear h0
        go_wp2_with fail
        go_quiet (fail)
        go_wp2
        go_meet
        case rel=>exact ⟨k,rfl,HK.out,GT.out,H2.out,HD.out.step _⟩
       ·obtain ⟨j,hj⟩:∃ j,k=j + 1:=⟨k - 1,by omega⟩
        have hj1:k - 1=j:=by omega
        rcases HOC.out with hc | ⟨gb,go,rfl,hc⟩
        ·rw [hc] at hk;simp at hk;omega
        have y0:=(HD.out.cell ⟨gb,go + j * 3,none⟩).trans (hc j (by omega)).1
        have y1:=(HD.out.cell ⟨gb,go + j * 3 + 1,none⟩).trans (hc j (by omega)).2.1
        have yl:=ecell_in y0
        have oj:=OTH.out j (by omega)
        have GN:Hid (ltT (T1,T2,T3) (O.getD j (0,0,0))→∀ m,j≤m→m<O.length→ltT (T1,T2,T3) (O.getD m (0,0,0))):=Lib.hid (fun z m h1 h2=>by
         rcases (by omega:m=j∨k≤m) with q | q
         ·rw [q];exact z
         ·exact GT.out m q h2)
        have L2:Hid (¬ ltT (T1,T2,T3) (O.getD j (0,0,0))→0<k→ltT (O.getD (k - 1) (0,0,0)) (T1,T2,T3)):=Lib.hid (fun z _=>by
         rw [hj1]
         have:=oj
         unfold ltT at *
         simp only at *
         omega)
        generalize O.getD j (0,0,0)=Y at y0 y1 oj GN L2
        obtain ⟨Y1,Y2,Y3⟩:=Y
        dsimp only at y0 y1 t0 t1 oj
        have r1:(0:Int)≤(k:Int) - 1:=by omega
        have r2:(k:Int) - 1<(O.length:Int):=by omega
        have r3:((k:Int) - 1).toNat=j:=by omega
        have d1:decide ((k:Int) > 0)=true:=decide_eq_true (by omega)
        have d2:decide ((0:Int)<(k:Int))=true:=decide_eq_true (by omega)
        have d3:decide (0<k)=true:=decide_eq_true h0
        have HJ:=Lib.hid hj
        clear hj hj1 hc oj
        by_cases c1:T2<Y2
        ·have G:=Lib.hid (GN.out (by unfold ltT;simp only;omega))
         have e1:decide (Y2 > T2)=true:=decide_eq_true c1
         have e2:decide (T2<Y2)=true:=decide_eq_true c1
         clear GN L2
         go_wp2_with fail
         go_quiet (fail)
         go_wp2
         go_roundw
         case rel=>exact ⟨j,by have:=HJ.out;have:=HK.out;omega,by have:=HJ.out;first | go_num | (congr 1;omega),G.out,HD.out.step _⟩
         case measure=>simp [intOf];omega
        have e1:decide (Y2 > T2)=false:=decide_eq_false (by omega)
        have e2:decide (T2<Y2)=false:=decide_eq_false c1
        rcases c2:(Y2 == T2) with _ | _
        ·have H2:=Lib.hid (L2.out (by unfold ltT;simp only;have:=beq_eq_false_iff_ne.1 c2;omega))
         clear GN L2
         go_wp2_with fail
         go_quiet (fail)
         go_wp2
         go_meet
         case rel=>exact ⟨k,rfl,HK.out,GT.out,H2.out,HD.out.step _⟩
        have c2':=beq_iff_eq.1 c2
        by_cases c3:T1<Y1
        ·have G:=Lib.hid (GN.out (by unfold ltT;simp only;omega))
         have e3:decide (Y1 > T1)=true:=decide_eq_true c3
         have e4:decide (T1<Y1)=true:=decide_eq_true c3
         clear GN L2 c2'
         go_wp2_with fail
         go_quiet (fail)
         go_wp2
         go_roundw
         case rel=>exact ⟨j,by have:=HJ.out;have:=HK.out;omega,by have:=HJ.out;first | go_num | (congr 1;omega),G.out,HD.out.step _⟩
         case measure=>simp [intOf];omega
        ·have H2:=Lib.hid (L2.out (by unfold ltT;simp only;omega))
         have e3:decide (Y1 > T1)=false:=decide_eq_false (by omega)
         have e4:decide (T1<Y1)=false:=decide_eq_false c3
         clear GN L2 c2'
         go_wp2_with fail
         go_quiet (fail)
         go_wp2
         go_meet
         case rel=>exact ⟨k,rfl,HK.out,GT.out,H2.out,HD.out.step _⟩
     case rest=>
     obtain ⟨k,rfl,hk,hgt,hlo,hD⟩:=hcut
     obtain ⟨wz,hwz⟩:=wnm4 (hD.below 0)
     subst hwz
     have HDz:=Lib.hid hD
     have BI:=Lib.hid (PUT.out k hk hgt hlo)
     clear hgt hlo hD PUT OTH HOC
     have O5:=Lib.hid (ow_below O4.out (HDz.out.below _))
     have BZ:=Lib.hid (B4.out.trans (HDz.out.below _))
     have szz:=BZ.out.size
     have t0:=(HDz.out.cell ⟨bx,0,none⟩).trans TRI.out.1
     have t1:=(HDz.out.cell ⟨bx,1,none⟩).trans TRI.out.2.1
     have t2:=(HDz.out.cell ⟨bx,2,none⟩).trans TRI.out.2.2
     have tl:=ecell_in t0
     dsimp only at t0 t1 t2
     go_wp2_with (at_builtin;refine wpList_append_own_at _ rfl _ _ 40 rfl w3.heap.size 44 i0 (.agg #[.int .i64 0,.int .i64 0,.int .i64 0]) 3 24 Tryz.underlying40 hi0 hz0 hz1 hz2 rfl (by decide) _ _ _ rfl (O5.out.alloc _) ⟨wz.heap.size,0,none⟩ 1 1 [.int .i64 T1,.int .i64 T2,.int .i64 T3] rfl rfl (ap_three _ _ _ _ _) (ap_cell3 _ _ _) (by unfold maxLen;omega) (by omega) (by simp;omega) ?_)
     intro v6 w6 ho6 hg6 _ hob
     have B6:=Lib.hid (ow_grow szz BZ.out (Below.refl _ _) O5.out hg6)
     have c6:∀ c u,wz.cell? ⟨bx,c,none⟩=some u→w6.cell? ⟨bx,c,none⟩=some u:=fun c u q=>hg6.cell (Lib.cell?_alloc_some _ q) (fun z=>NE.out z.symm)
     have TRI6:Hid (Tri3 w6 bx (T1,T2,T3)):=Lib.hid ⟨c6 0 _ t0,c6 1 _ t1,c6 2 _ t2⟩
     have own6:w6.ownsRow w3.heap.size 44 3 v6 (O.length + 1) (prt (O.take O.length++(T1,T2,T3) :: O.drop O.length)):=by rw [← gap_start,prt_snoc];exact ho6
     rcases id own6.2 with ⟨_,z⟩ | ⟨g6,cap6,cur,e6,hb6,_⟩
     ·omega
     subst e6
     have NE6:g6≠bx:=fun z=>by
      rcases hob with q | q
      ·exact NE.out (by rw [← q,← z];rfl)
      ·have q2:g6=(wz.alloc (.cells #[.int .i64 T1,.int .i64 T2,.int .i64 T3] 44)).heap.size:=by simpa [Value.ownBlock] using q
       rw [World.size_alloc] at q2
       omega
     have OW6:=Lib.hid own6
     have G6:=Lib.hid (And.intro hb6 NE6)
     clear own6 ho6 hg6 hob c6 hb6 NE6 t0 t1 t2 tl O5 BZ szz O4 B4 TRI HDz HOw HBr NE
     go_wp2_with fail
     go_loopw [17] (fun jv wj=>∃ (j:Nat) (gg:Tm),k≤j∧j≤O.length∧jv=.int .i64 j∧wj.ownsRow w3.heap.size 44 3 (.slice (some ⟨g6,0,none⟩) (O.length + 1) cap6) (O.length + 1) (prt (O.take j++gg :: O.drop j))∧Tri3 wj bx (T1,T2,T3)∧Below w3.heap.size w3 wj) (fun jv _=>(intOf jv).toNat)
     case atStart=>exact ⟨O.length,(T1,T2,T3),hk,Nat.le_refl _,by go_num,OW6.out,TRI6.out,B6.out⟩
     case round=>
      clear OW6 TRI6 B6
      obtain ⟨j,gg,hkj,hjO,rfl,hown7,htri,hB7⟩:=hrel
      obtain ⟨wj,hwj⟩:=wnm4 hB7
      subst hwj
      have O7:=Lib.hid hown7
      have T7:=Lib.hid htri
      have B7:=Lib.hid hB7
      have gl:=gap_len O gg j hjO
      by_cases hj:k<j
      ·obtain ⟨m,rfl⟩:∃ m,j=m + 1:=⟨j - 1,by omega⟩
       have cl:=own_cells3 hown7 m (by rw [gl];omega)
       have ga:=gap_at (g:=gg) (show 0<m + 1 by omega) hjO
       rw [Nat.add_sub_cancel] at ga
       rw [ga] at cl
       have th:=own_there3 hown7 (m + 1) (by omega)
       have OS:=own_set3 hown7 (m + 1) (by rw [gl];omega) (O.getD m (0,0,0))
       have gs:=gap_set (g:=gg) (show 0<m + 1 by omega) hjO
       rw [Nat.add_sub_cancel] at gs
       rw [gs] at OS
       have BS:=Lib.hid (hB7.trans (blw_cells G6.out.1 (encT (O.getD m (0,0,0))) ((m + 1) * 3) wj))
       have TS:=Lib.hid (htri.cells (o:=(m + 1) * 3) G6.out.2 (encT (O.getD m (0,0,0))))
       generalize O.getD m (0,0,0)=Y at cl OS BS TS
       obtain ⟨y0,y1,y2⟩:=cl
       have HOS:=Lib.hid OS
       have HTH:=Lib.hid th
       have yl:=ecell_in y0
       clear gs ga OS th hown7 htri hB7 gl O7 T7 B7
       have r1:(0:Int)≤((m + 1:Nat):Int) - 1:=by omega
       have r2:((m + 1:Nat):Int) - 1<((O.length + 1:Nat):Int):=by omega
       have r3:(((m + 1:Nat):Int) - 1).toNat=m:=by omega
       go_wp2_with (refine tm_store (by rfl) (.tmp 126) (.tmp 125) (by rfl) (by rfl) g6 ((m + 1) * 3) Y (by rfl) (by rfl) HTH.out ?_)
       go_roundw
       case rel=>exact ⟨m,Y,by omega,by omega,by go_num,HOS.out,TS.out,BS.out⟩
       case measure=>simp [intOf]
      ·obtain rfl:j=k:=by omega
       have th:=own_there3 hown7 j (by omega)
       have OS:=own_set3 hown7 j (by rw [gl];omega) (T1,T2,T3)
       rw [gap_fill hjO] at OS
       have gl2:=gap_len O (T1,T2,T3) j hjO
       have NX:=Lib.hid (And.intro (show (wj.setCells g6 (j * 3) (encT (T1,T2,T3))).ownsRow w3.heap.size 44 3 (.slice (some ⟨g6,0,none⟩) (O.length + 1) cap6) (O.take j++(T1,T2,T3) :: O.drop j).length (prt (O.take j++(T1,T2,T3) :: O.drop j)) by rw [gl2];exact OS) (hB7.trans (blw_cells G6.out.1 (encT (T1,T2,T3)) (j * 3) wj)))
       obtain ⟨y0,y1,y2⟩:=htri
       have HTH:=Lib.hid th
       have yl:=ecell_in y0
       dsimp only at y0 y1 y2
       have kO:j<O.length + 1:=by omega
       clear OS th hown7 hB7 gl gl2 O7 T7 B7 hj hkj
       go_wp2_with (refine tm_store (by rfl) (.tmp 130) (.tmp 129) (by rfl) (by rfl) g6 (j * 3) (T1,T2,T3) (by rfl) (by rfl) HTH.out ?_)
       go_roundw
       case rel=>exact ⟨i + 1,by omega,by go_num,⟨_,BI.out,NX.out.1⟩,NX.out.2⟩
       case measure=>simp [intOf];omega
    ·have ei:i=p.length:=by omega
     rw [ei] at hO
     have eO:=PE.out O hO
     have ZZ:=Lib.hid (And.intro (own_tms hown) (And.intro (B3.out.trans (hB.mono B3.out.size)) (fun g hg=>And.intro (Nat.le_trans B3.out.size (hown.lt g hg).1) (hown.lt g hg).2)))
     rw [eO] at ZZ
     clear hO eO ei hown hB HOw HBI
     go_wp2
     go_ret
     exact ⟨_,rfl,ZZ.out.1,ZZ.out.2.1,ZZ.out.2.2⟩
end Go.Proofs.YtoncfgfjdlgfcaaGreatDoor
