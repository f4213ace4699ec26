/-
  Texts of our own that serve the card of this claim, joined into one.
-/
import Derived.Test.YtoncfgfjdlgfcaaGreatDoorPL
import Derived.Test.YtoncfgfjdlgfcaaGreatDoorPpFit
import Derived.Test.YtoncfgfjdlgfcaaGreatDoorLD
import Derived.Test.YtoncfgfjdlgfcaaGreatDoorBR
import Derived.Test.YtoncfgfjdlgfcaaGreatDoorBL
import Derived.Test.YtoncfgfjdlgfcaaGreatDoorRC
import Derived.Deep.Cut
import Derived.Deep.CutRange
import Derived.BigQuiet
import Derived.ChangeKeysEq
namespace Go.Proofs.YtoncfgfjdlgfcaaGreatDoor.Pp
open Go.RowKit Bz Cal Txt
abbrev bulkOk (L:List (Evt × Evs)):Prop:=∀ x∈L,x.1.rule.months.length + x.1.rule.days.length + x.1.rule.weeks.length + x.1.rule.pick.length≤9223372036854775807
theorem taken_any (a:Int) (l:List (Int × Int)) (L:List (Evt × Evs)) (fr t:Int) (v vl:Value) (w:World) (hz:ZoneIn w v a l) (hL:Evl w vl L) (hl:L.length≤9223372036854775807) (hs:bulkOk L) :
 Calls Tryz.prog 9 #[v,vl,.int .i64 fr,.int .i64 t] w fun e w'=>∃ u,e=.returned (.tuple #[u,.int .i64 (dF a l fr t L)])∧Ob w' w.heap.size u (bsL a l fr t L)∧Below w.heap.size w w':=by
 rw [b_L]
 exact Pl.tak_of _ _ a l fr t v vl w hz (fun W q=>Pl.refAll_any a l L fr t v vl W (hz.on q) (hL.on q) hl hs) (d_few a l fr t L).1 (Nat.le_trans (d_few a l fr t L).2.1 (by decide)) (d_rt a l fr t L)
theorem busy_any (hS:SrtH) (a:Int) (l:List (Int × Int)) (L:List (Evt × Evs)) (fr t:Int) (v vl:Value) (w:World) (hz:ZoneIn w v a l) (hL:Evl w vl L) (hl:L.length≤9223372036854775807) (hT:Tab w) :
 Calls Tryz.prog 10 #[v,vl,.int .i64 fr,.int .i64 t] w (NmA w (bsL a l fr t L) (dF a l fr t L)):=by
 have h:=bsy_any hS a l L fr t v vl w hz hL hl hT
 rwa [b_F] at h
theorem clashes_any (a:Int) (l:List (Int × Int)) (L:List (Evt × Evs)) (fr t:Int) (v vl:Value) (w:World) (hz:ZoneIn w v a l) (hL:Evl w vl L) (hl:L.length≤9223372036854775807) (hT:Tab w) :
 Calls Tryz.prog 15 #[v,vl,.int .i64 fr,.int .i64 t] w (ClA w (cOut ((dL a l fr t L).map tkb) 0) (dF a l fr t L)):=by
 have h:=clash_any a l L fr t v vl w hz hL hl hT
 have e1:=c_L a l fr t L
 have e2:=d_F a l fr t L
 unfold eF eL at e1
 unfold eF at e2
 rw [e1,← e2] at h
 exact h
theorem all_any (a:Int) (l:List (Int × Int)) (L:List (Evt × Evs)) (fr t:Int) (v vl:Value) (w:World) (hz:ZoneIn w v a l) (hL:Evl w vl L) (hl:L.length≤9223372036854775807) (hs:bulkOk L) :
 Calls Tryz.prog 13 #[v,vl,.int .i64 fr,.int .i64 t] w (Pl.PaA w (dL a l fr t L) (dF a l fr t L)):=Pl.refAll_any a l L fr t v vl w hz hL hl hs
theorem fre_sm {C:List Bz} {fr t:Int} (h:∀ x∈C,Gd x) (h1:ist fr=true) (h2:ist t=true):∀ x∈fre t fr (nrm C),Bz.Sm x:=fun x hx=>by
 have a:=of_decide_eq_true h1
 have b:=of_decide_eq_true h2
 obtain ⟨i1,i2⟩:=fre_cn t (nrm C) fr (nrm_cn (gd_rt h))
 have p:=((i2 x.1).1 (i1.first hx)).1
 have q:=((i2 (x.2 - 1)).1 (i1.last hx)).1
 unfold Bz.Sm
 omega
theorem d2_no {fx fy:Int} {x y:List Bz} {fr t len:Int} (h:¬ (if fx=0 then fy else fx)=0):d2F fx fy x y fr t len=(if fx=0 then fy else fx)∧d2T fx fy x y fr t len=0:=by
 unfold d2F d2T
 by_cases a:fx=0
 ·rw [if_pos a] at h ⊢
  simp [a,h]
 ·rw [if_neg a] at h ⊢
  simp [a]
theorem d2_yes {x y:List Bz} {fr t len:Int}:d2F 0 0 x y fr t len=(if ist fr=false∨ist t=false then 1 else if t<fr then 3 else slE len (fre t fr (nrm (y++x))))∧d2T 0 0 x y fr t len=(if ist fr=false∨ist t=false then 0 else if t<fr then 0 else slT len (fre t fr (nrm (y++x)))):=⟨rfl,rfl⟩
theorem ld_zero {y mo:Int} {L:List (Evt × Evs)} (h:ldF y mo L=0):isMn y mo∧L.length≤20∧∀ x∈L,evF x.1=0:=by
 unfold ldF at h
 by_cases q1:isMn y mo
 ·rw [if_neg (fun z=>z q1)] at h
  by_cases q2:20<L.length
  ·rw [if_pos q2] at h;cases h
  ·rw [if_neg q2] at h
   exact ⟨q1,by omega,teG_all evF L h⟩
 ·rw [if_pos q1] at h;cases h
theorem part_two (p q:Int) (off:Nat) (v:Value) (h:(#[Value.int .i64 p,.int .i64 q]:Array Value)[off]?=some v) (w:World):(part 3 #[Value.int .i64 p,.int .i64 q] off).run Tryz.prog w=.ok v w:=run_part_plain w (by kernel_rfl) h
theorem eq_pair (d:Nat) (w:World) (p q:Int):(Op.equalIn (d + 1 + 1) 58 (.agg #[.int .i64 p,.int .i64 q]) (.agg #[.int .i64 p,.int .i64 q])).run Tryz.prog w=.ok true w:=by
 have h1:Tryz.prog.underlying 3=some (.int .i64):=by kernel_rfl
 have h2:(Tryz.prog.underlying 58)=some (.array 2 3):=by kernel_rfl
 have g0:=part_two p q 0 _ rfl
 have g1:=part_two p q 1 _ rfl
 simp [Op.equalIn,run_underlying h2,run_underlying h1,List.range',g0,g1]
theorem meetL_any (hS:SrtH) (a:Int) (l:List (Int × Int)) (sa:Option Addr) (sc:Nat) (L:List (Evt × Evs)) (ae:Option Addr) (ce:Nat) (b:Int) (m:List (Int × Int)) (sb:Option Addr) (sd:Nat) (M:List (Evt × Evs)) (af:Option Addr) (cf:Nat) (fr t len:Int) (bz bl:Nat) (W:World)
 (k3:∀ j v,([.int .i64 a,.slice sa l.length sc,.int .i64 b,.slice sb m.length sd]:List Value)[j]?=some v→W.cell? ⟨bz,j,none⟩=some v) (k2:∀ j v,([.slice ae L.length ce,.slice af M.length cf]:List Value)[j]?=some v→W.cell? ⟨bl,j,none⟩=some v)
 (hz:ZoneIn W (.agg #[.int .i64 a,.slice sa l.length sc]) a l) (hy:ZoneIn W (.agg #[.int .i64 b,.slice sb m.length sd]) b m) (hL:Evl W (.slice ae L.length ce) L) (hM:Evl W (.slice af M.length cf) M) (hl:L.length≤9223372036854775807) (hm:M.length≤9223372036854775807) (hT:Tab W) :
 Calls Tryz.prog 7 #[.slice (some ⟨bz,0,none⟩) 2 2,.slice (some ⟨bl,0,none⟩) 2 2,.int .i64 fr,.int .i64 t,.int .i64 len] W (TtA W (d2T (dF a l fr t L) (dF b m fr t M) (bsL a l fr t L) (bsL b m fr t M) fr t len) (d2F (dF a l fr t L) (dF b m fr t M) (bsL a l fr t L) (bsL b m fr t M) fr t len)):=by
 have K:=meet_any hS 2 (by decide) (tw a b) (tw l m) (tw (sa,l.length,sc) (sb,m.length,sd)) (tw (ae,L.length,ce) (af,M.length,cf)) (tw L M) bz 0 bl 0 fr t len W
  (fun i hi=>by
   rcases (by omega:i=0∨i=1) with rfl | rfl
   ·exact ⟨k3 0 _ rfl,k3 1 _ rfl⟩
   ·exact ⟨k3 2 _ rfl,k3 3 _ rfl⟩)
  (fun i hi=>by
   rcases (by omega:i=0∨i=1) with rfl | rfl
   ·exact k2 0 _ rfl
   ·exact k2 1 _ rfl)
  (fun i hi=>by
   rcases (by omega:i=0∨i=1) with rfl | rfl
   ·exact hz
   ·exact hy)
  (fun i hi=>by
   rcases (by omega:i=0∨i=1) with rfl | rfl
   ·exact hL
   ·exact hM)
  (fun i hi=>by
   rcases (by omega:i=0∨i=1) with rfl | rfl
   ·exact hl
   ·exact hm) hT
 obtain ⟨e1,e2⟩:=meet_doc (fun i=>bsF (tw a b i) (tw l m i) fr t (tw L M i)) (fun i=>bsL (tw a b i) (tw l m i) fr t (tw L M i)) fr t len (b_gd a l fr t L) (b_gd b m fr t M)
 rw [e1,e2] at K
 have f0:bsF (tw a b 0) (tw l m 0) fr t (tw L M 0)=dF a l fr t L:=b_F a l fr t L
 have f1:bsF (tw a b 1) (tw l m 1) fr t (tw L M 1)=dF b m fr t M:=b_F b m fr t M
 simp only [f0,f1] at K
 exact K
theorem tms_of {w:World} {v:Value} {T:List Tm} (h:RowK Pl.enc3 w v T):Tms w v T:=by
 obtain ⟨pa,c,ea,_⟩:=id h
 subst ea
 rcases T with _ | ⟨y,r⟩
 ·exact ⟨pa,c,rfl,Or.inl rfl⟩
 ·obtain ⟨b,off,e0,_,_⟩:=Pl.t3_at h (i:=0) (by simp)
  refine ⟨pa,c,rfl,Or.inr ⟨b,off,e0,fun i hi=>?_⟩⟩
  obtain ⟨b',off',e1,_,q⟩:=Pl.t3_at h hi
  rw [e0] at e1
  obtain ⟨rfl,rfl⟩:b=b'∧off=off':=by simpa using e1
  exact q
theorem rowT_of {w1:World} {ua:Option Addr} {n uc:Nat} {us:List Pl.Sv} {LL:List (List Tm)} (US:RowK Pl.encS w1 (.slice ua n uc) us) (EC:Pl.Ech w1 us LL):∀ i,i<LL.length→∃ ub uoff p c,ua=some ⟨ub,uoff,none⟩∧∀ W,Below w1.heap.size w1 W→W.cell? ⟨ub,uoff + i,none⟩=some (.slice p (LL.getD i []).length c)∧Tms W (.slice p (LL.getD i []).length c) (LL.getD i []):=fun i hi=>by
 obtain ⟨ub,uoff,ea,_,hc⟩:=Pl.sv_at US (i:=i) (by rw [EC.1];exact hi)
 have hr:=EC.2 i hi
 rcases hS:us.getD i (none,0,0) with ⟨S1,S2,S3⟩
 rw [hS] at hr hc
 obtain ⟨p,c,ep,_⟩:=id hr
 simp only [Pl.svV,Value.slice.injEq] at ep
 obtain ⟨rfl,rfl,rfl⟩:=ep
 exact ⟨ub,uoff,_,_,ea,fun W q=>⟨(q.cell (p:=⟨ub,uoff + i,none⟩) (cell_in hc)).trans hc,tms_of (hr.on q)⟩⟩
theorem c_step (LL:List (List Tm)) (i k:Nat) (hi:i<LL.length) (h:k<LL.length):cIn (LL.map tkb) i k=(if mmL (LL.getD i []) (LL.getD k [])=true then [((i:Int),(k:Int))] else [])++cIn (LL.map tkb) i (k + 1):=by
 have g:∀ j,j<LL.length→(LL.map tkb).getD j []=tkb (LL.getD j []):=fun j hj=>by
  rw [List.getD_eq_getElem?_getD,List.getElem?_map,List.getD_eq_getElem?_getD,List.getElem?_eq_getElem hj]
  rfl
 rw [cIn_step _ _ _ (by rw [List.length_map];exact h),g i hi,g k h,mm_tk]
set_option maxRecDepth 100000 in
set_option maxHeartbeats 16000000 in
theorem ptells (hS:SrtH) (a:Int) (l:List (Int × Int)) (v:Value) (L:List (Evt × Evs)) (vl:Value) (b:Int) (m:List (Int × Int)) (v2:Value) (M:List (Evt × Evs)) (vm:Value) (fr t len y mo:Int) (w:World)
 (hz:ZoneIn w v a l) (hL:Evl w vl L) (hl:L.length≤9223372036854775807) (hsL:bulkOk L) (hy:ZoneIn w v2 b m) (hM:Evl w vm M) (hm:M.length≤9223372036854775807) (hsM:bulkOk M) (hT:Tab w) (hg:ErrTy w) :
 Calls Tryz.prog 4 #[v,vl,v2,vm,.int .i64 fr,.int .i64 t,.int .i64 len,.int .i64 y,.int .i64 mo] w fun x w'=>x=.returned (.bool true)∧Below w.heap.size w w':=by
 have HS:=Lib.hid hS
 have HZ:=Lib.hid (fun W (q:Below w.heap.size w W)=>hz.on q)
 have HY:=Lib.hid (fun W (q:Below w.heap.size w W)=>hy.on q)
 have HL:=Lib.hid (fun W (q:Below w.heap.size w W)=>hL.on q)
 have HM:=Lib.hid (fun W (q:Below w.heap.size w W)=>hM.on q)
 have HT:=Lib.hid (fun W (q:Below w.heap.size w W)=>hT.below q)
 have HG:=Lib.hid (fun W (q:Below w.heap.size w W)=>hg.below q)
 have HSL:=Lib.hid hsL
 have HSM:=Lib.hid hsM
 obtain ⟨sa,sc,rfl⟩:=hz.form
 obtain ⟨sb,sd,rfl⟩:=hy.form
 obtain ⟨ae,ce,rfl⟩:=hL.form
 obtain ⟨af,cf,rfl⟩:=hM.form
 obtain ⟨W2,hW,B0,Z0,Y0⟩:=zz_boxes w a l sa sc b m sb sd
 have HW:=Lib.hid hW
 have HB:=Lib.hid B0
 have HX:=Lib.hid Z0
 have HU:=Lib.hid Y0
 have K1:=Lib.hid (fun W (q:Below w.heap.size w W)=>taken_any a l L fr t _ _ W (HZ.out W q) (HL.out W q) hl hsL)
 have K2:=Lib.hid (fun W (q:Below w.heap.size w W)=>busy_any hS a l L fr t _ _ W (HZ.out W q) (HL.out W q) hl (HT.out W q))
 have N1:=Lib.hid (bsL_len a l fr t L)
 have GN:=Lib.hid (b_gd a l fr t L)
 generalize hNL:bsL a l fr t L=N at K1 K2 N1 GN
 have HNL:=Lib.hid hNL
 clear hNL
 clear hS hz hy hL hM hT hg hW B0 Z0 Y0 hsL hsM
 go_enter Tryz.func4,Tryz.ntmps4
 go_upto_region 1 with fail
 rw [← HW.out]
 clear HW
 obtain ⟨z0,z1⟩:=HX.out
 have zll:=cell_in z0
 go_wp2_with fail
 clear z0 z1 zll
 refine (K1.out W2 HB.out).mono ?_
 rintro x w3 ⟨u3,rfl,o3,hb⟩
 have B3:=Lib.hid (HB.out.trans (hb.mono HB.out.size))
 have X3:=Lib.hid (HX.out.on hb)
 have U3:=Lib.hid (HU.out.on hb)
 have R3:=Lib.hid o3.rb
 clear hb o3 HB HX HU K1
 obtain ⟨z0,z1⟩:=X3.out
 have zll:=cell_in z0
 go_wp2_with fail
 clear z0 z1 zll
 refine (K2.out w3 B3.out).mono ?_
 rintro x w4 ⟨u4,rfl,o4,hb⟩
 have B4:=Lib.hid (B3.out.trans (hb.mono B3.out.size))
 have X4:=Lib.hid (X3.out.on hb)
 have U4:=Lib.hid (U3.out.on hb)
 have R4:=Lib.hid (And.intro (R3.out.on hb) o4.rb)
 clear hb o4 B3 X3 U3 R3 K2
 have K3:=Lib.hid (fun W (q:Below w.heap.size w W)=>errT_fault (dF a l fr t L) W (HG.out W q))
 have K4:=Lib.hid (fun W (q:Below w.heap.size w W)=>all_any a l L fr t _ _ W (HZ.out W q) (HL.out W q) hl HSL.out)
 have K5:=Lib.hid (fun W (q:Below w.heap.size w W)=>clashes_any a l L fr t _ _ W (HZ.out W q) (HL.out W q) hl (HT.out W q))
 have DN:=Lib.hid (d_few a l fr t L).2
 generalize hFL:dF a l fr t L=F at K3 K4 K5 ⊢
 have HFL:=Lib.hid hFL
 clear hFL
 generalize dL a l fr t L=LL at K4 K5 DN
 go_wp2_with fail
 refine (K3.out w4 B4.out).mono ?_
 rintro x w5 ⟨rfl,hb⟩
 have B5:=Lib.hid (B4.out.trans (hb.mono B4.out.size))
 have X5:=Lib.hid (X4.out.on hb)
 have U5:=Lib.hid (U4.out.on hb)
 have R5:=Lib.hid (And.intro (R4.out.1.on hb) (R4.out.2.on hb))
 clear hb B4 X4 U4 R4
 have K6:=Lib.hid (rSame_any N _ _ w5 R5.out.2 R5.out.1 (by have:=N1.out;omega))
 go_wp2_with fail
 refine K6.out.mono ?_
 rintro x w6 ⟨rfl,hb⟩
 have B6:=Lib.hid (B5.out.trans (hb.mono B5.out.size))
 have X6:=Lib.hid (X5.out.on hb)
 have U6:=Lib.hid (U5.out.on hb)
 have R6:=Lib.hid (R5.out.1.on hb)
 clear hb B5 X5 U5 R5 K6
 obtain ⟨z0,z1⟩:=X6.out
 have zll:=cell_in z0
 go_wp2_with fail
 clear z0 z1 zll
 refine (K4.out w6 B6.out).mono ?_
 rintro x w7 ⟨u7,rfl,ht7,hb⟩
 have B7:=Lib.hid (B6.out.trans (hb.mono B6.out.size))
 have X7:=Lib.hid (X6.out.on hb)
 have U7:=Lib.hid (U6.out.on hb)
 have R7:=Lib.hid (R6.out.on hb)
 obtain ⟨us,hus,hec⟩:=ht7
 have EC:=Lib.hid hec
 have UL:us.length=LL.length:=hec.1
 have US:=Lib.hid hus
 obtain ⟨ua,uc,eu,_⟩:=hus
 subst eu
 clear hb hec B6 X6 U6 R6 K4
 rw [UL] at US ⊢
 have ROW:=Lib.hid (rowT_of US.out EC.out)
 have LN:Hid (∀ i,i<LL.length→(LL.getD i []).length≤200):=Lib.hid (fun i hi=>DN.out.2 _ (by rw [List.getD_eq_getElem?_getD,List.getElem?_eq_getElem hi];exact List.getElem_mem hi))
 have L20:LL.length≤20:=DN.out.1
 have ST:=Lib.hid (fun i k hi hk=>c_step LL i k hi hk)
 have LMP:Hid ((LL.map tkb).length=LL.length):=Lib.hid (List.length_map _)
 generalize LL.map tkb=TK at K5 ST LMP
 clear EC US UL DN
 have B0:=Lib.hid (Below.refl w7.heap.size w7)
 go_wp2_with fail
 go_loopw [27,26,28,29] (fun iv xv _ _ wr=>∃ (i:Nat) (x:Value) (g:List Bz),i≤LL.length∧iv=.int .i64 i∧xv=x∧Hid (Oc wr w7.heap.size x g)∧Hid (g++cOut TK i=cOut TK 0)∧Hid (g.length≤20 * i)∧Below w7.heap.size w7 wr) (fun iv _ _ _ _=>LL.length - (intOf iv).toNat)
 case atStart=>exact ⟨0,_,[],Nat.zero_le _,rfl,rfl,Lib.hid (World.ownsRow_nil _ _ _ _),Lib.hid rfl,Lib.hid (Nat.le_refl _),B0.out⟩
 case round=>
  obtain ⟨i,x,g,hi,rfl,hx,HO,HGo,HLn,hB⟩:=hrel
  replace hx:=hx.symm
  subst hx
  have HB:=Lib.hid hB
  by_cases hlt:i<LL.length
  case neg=>
   have O9:Hid (Oc wr w7.heap.size x (cOut TK 0)):=Lib.hid (by rw [← HGo.out,cOut_end TK i (by rw [LMP.out];omega),List.append_nil];exact HO.out)
   obtain ⟨w8,hw8⟩:∃ w8,w8=wr:=⟨_,rfl⟩
   subst hw8
   have B8:=Lib.hid (B7.out.trans (hB.mono B7.out.size))
   have X8:=Lib.hid (X7.out.on hB)
   have U8:=Lib.hid (U7.out.on hB)
   have R8:=Lib.hid (R7.out.on hB)
   have O8:=Lib.hid O9.out.rb
   have RL:(cOut TK 0).length≤400:=by
    rw [← HGo.out,cOut_end TK i (by rw [LMP.out];omega),List.append_nil]
    have:=HLn.out
    omega
   clear hB HB HO HGo HLn B7 X7 U7 R7 O9 ROW LN ST LMP B0
   as_aux_lemma=>
   -- STAGE C
   generalize cOut TK 0=R at K5 O8 RL
   obtain ⟨xa,xc,ex,_⟩:=id O8.out
   subst ex
   obtain ⟨z0,z1⟩:=X8.out
   have zll:=cell_in z0
   go_wp2_with fail
   clear z0 z1 zll
   refine (K5.out w8 B8.out).mono ?_
   rintro y9 w9 ⟨u9,rfl,o9,hb⟩
   have B9:=Lib.hid (B8.out.trans (hb.mono B8.out.size))
   have X9:=Lib.hid (X8.out.on hb)
   have U9:=Lib.hid (U8.out.on hb)
   have R9:=Lib.hid (R8.out.on hb)
   have O9:=Lib.hid (And.intro (O8.out.on hb) o9.rb)
   obtain ⟨pa,pc,ep,_⟩:=id O9.out.2
   subst ep
   clear hb o9 B8 X8 U8 R8 O8 K5
   go_wp2_with fail
   refine (K3.out w9 B9.out).mono ?_
   rintro y10 w10 ⟨rfl,hb⟩
   have B10:=Lib.hid (B9.out.trans (hb.mono B9.out.size))
   have X10:=Lib.hid (X9.out.on hb)
   have U10:=Lib.hid (U9.out.on hb)
   have R10:=Lib.hid (R9.out.on hb)
   have O10:=Lib.hid (And.intro (O9.out.1.on hb) (O9.out.2.on hb))
   clear hb B9 X9 U9 R9 O9
   have S10:=Lib.hid (Below.refl w10.heap.size w10)
   go_wp2_with fail
   go_loopw [32] (fun iv wr=>∃ j:Nat,j≤R.length∧iv=.int .i64 j∧Below w10.heap.size w10 wr) (fun iv _=>R.length - (intOf iv).toNat)
   case atStart=>exact ⟨0,Nat.zero_le _,rfl,S10.out⟩
   case round=>
    obtain ⟨j,hj,rfl,hB⟩:=hrel
    have HB:=Lib.hid hB
    by_cases hlj:j<R.length
    case pos=>
     obtain ⟨b1,f1,e1,_,c1,c2⟩:=rb_at (O10.out.1.on hB) hlj
     obtain ⟨b2,f2,e2,_,d1,d2⟩:=rb_at (O10.out.2.on hB) hlj
     subst e1
     subst e2
     have l1:=cell_in c1
     have l2:=cell_in d1
     generalize R.getD j (0,0)=P at c1 c2 d1 d2
     have HC:Hid (∀ X,Below wr.heap.size wr X→X.cell? ⟨b1,f1 + j * 2,none⟩=some (.int .i64 P.1)∧X.cell? ⟨b1,f1 + j * 2 + 1,none⟩=some (.int .i64 P.2)∧X.cell? ⟨b2,f2 + j * 2,none⟩=some (.int .i64 P.1)∧X.cell? ⟨b2,f2 + j * 2 + 1,none⟩=some (.int .i64 P.2)):=Lib.hid (fun X q=>⟨(q.cell (p:=⟨b1,f1 + j * 2,none⟩) l1).trans c1,(q.cell (p:=⟨b1,f1 + j * 2 + 1,none⟩) l1).trans c2,(q.cell (p:=⟨b2,f2 + j * 2,none⟩) l2).trans d1,(q.cell (p:=⟨b2,f2 + j * 2 + 1,none⟩) l2).trans d2⟩)
     have BD:=Lib.hid (HB.out.trans ((Below.drew (Below.refl wr.heap.size wr)).mono HB.out.size))
     have EQ:∀ X:World,(Op.equalIn 10000 58 (.agg #[.int .i64 P.1,.int .i64 P.2]) (.agg #[.int .i64 P.1,.int .i64 P.2])).run Tryz.prog X=.ok true X:=fun X=>eq_pair 9998 X P.1 P.2
     clear hB c1 c2 d1 d2
     go_upto_region 23 with fail
     go_region_held3 (fun X=>X.cell? ⟨b1,f1 + j * 2,none⟩=some (.int .i64 P.1)∧X.cell? ⟨b1,f1 + j * 2 + 1,none⟩=some (.int .i64 P.2)∧X.cell? ⟨b2,f2 + j * 2,none⟩=some (.int .i64 P.1)∧X.cell? ⟨b2,f2 + j * 2 + 1,none⟩=some (.int .i64 P.2))
      (first | exact HC.out _ (Below.drew (Below.refl _ wr))) (fail)
     go_wp2_with fail
     go_roundw
     case rel=>exact ⟨j + 1,by omega,by go_num,BD.out⟩
     case measure=>simp [intOf];omega
    obtain ⟨w11,hw11⟩:∃ w11,w11=wr:=⟨_,rfl⟩
    subst hw11
    have B11:=Lib.hid (B10.out.trans (hB.mono B10.out.size))
    have X11:=Lib.hid (X10.out.on hB)
    have U11:=Lib.hid (U10.out.on hB)
    have R11:=Lib.hid (R10.out.on hB)
    clear hB HB B10 X10 U10 R10 O10 S10
    as_aux_lemma=>
    -- STAGE D
    have K7:=Lib.hid (fun W (q:Below w.heap.size w W)=>taken_any b m M fr t _ _ W (HY.out W q) (HM.out W q) hm HSM.out)
    have N7:=Lib.hid (bsL_len b m fr t M)
    have G7:=Lib.hid (b_gd b m fr t M)
    generalize hFM:dF b m fr t M=FM at K7
    generalize hNM:bsL b m fr t M=NM at K7 N7 G7
    obtain ⟨D,hD⟩:∃ D,D=d2F F FM N NM fr t len:=⟨_,rfl⟩
    obtain ⟨E,hE⟩:∃ E,E=d2T F FM N NM fr t len:=⟨_,rfl⟩
    have HD:=Lib.hid hD
    have HEE:=Lib.hid hE
    have HFM:=Lib.hid hFM
    have HNM:=Lib.hid hNM
    obtain ⟨F1,hF1⟩:∃ F1,F1=if F=0 then FM else F:=⟨_,rfl⟩
    have HF1:=Lib.hid hF1
    clear hD hE hFM hNM hF1
    go_upto_if 138 with fail
    go_cut [34,35] from 139 to 146 (fun s34 s35 wx=>∃ u,s35=u∧s34=.int .i64 F1∧Hid (F1=0→Ob wx w11.heap.size u NM)∧Below w11.heap.size w11 wx)
    case first=>
     by_cases hF:F=0
     ·subst hF
      have E1:F1=FM:=by rw [HF1.out,if_pos rfl]
      obtain ⟨y0,y1⟩:=U11.out
      have yll:=cell_in y0
      go_wp2_with fail
      clear y0 y1 yll
      refine (K7.out w11 B11.out).mono ?_
      rintro y12 w12 ⟨u12,rfl,o12,hb⟩
      have Q12:=Lib.hid (And.intro o12 hb)
      clear o12 hb
      go_wp2_with fail
      go_meet
      case rel=>exact ⟨u12,rfl,by rw [E1],Lib.hid (fun _=>Q12.out.1),Q12.out.2⟩
     ·have E1:F1=F:=by rw [HF1.out,if_neg hF]
      have BR:=Lib.hid (Below.refl w11.heap.size w11)
      go_wp2_with fail
      go_meet
      case rel=>exact ⟨_,rfl,by rw [E1],Lib.hid (fun q=>absurd (E1.symm.trans q) hF),BR.out⟩
    case rest=>
    as_aux_lemma=>
    obtain ⟨u12,hu,rfl,O12,hb⟩:=hcut
    subst hu
    have R12:=Lib.hid (R11.out.on hb)
    have S12:=Lib.hid hb
    clear hb R11 K7
    go_upto_if 148 with fail
    go_cut [33,34,35,36,37] from 149 to 173 (fun s33 s34 _ _ _ wx=>s33=.int .i64 E∧s34=.int .i64 D∧Below w11.heap.size w11 wx)
    case first=>
     by_cases h1:F1=0
     case neg=>
      have d:=d2_no (fx:=F) (fy:=FM) (x:=N) (y:=NM) (fr:=fr) (t:=t) (len:=len) (by rw [← HF1.out];exact h1)
      rw [← HF1.out,← HD.out,← HEE.out] at d
      have DD:=Lib.hid d
      clear d
      go_wp2_with fail
      go_meet
      case rel=>exact ⟨by rw [DD.out.2],by rw [DD.out.1],S12.out⟩
     have hF:F=0:=by
      have q:=HF1.out
      by_cases z:F=0
      ·exact z
      ·rw [if_neg z] at q;omega
     have hFM:FM=0:=by
      have q:=HF1.out
      rw [if_pos hF] at q;omega
     have dd:=d2_yes (x:=N) (y:=NM) (fr:=fr) (t:=t) (len:=len)
     have e1:=HD.out
     have e2:=HEE.out
     rw [hF,hFM] at e1 e2
     rw [← e1,← e2] at dd
     have DD:=Lib.hid dd
     have GC:Hid (∀ x∈NM++N,Gd x):=Lib.hid (fun x hx=>(List.mem_append.1 hx).elim (G7.out x) (GN.out x))
     have LC:Hid ((NM++N).length≤400):=Lib.hid (by have:=N1.out;have:=N7.out;rw [List.length_append];omega)
     obtain ⟨v6,w6,ap,o6,b6⟩:=appB_any (O12.out h1) R12.out S12.out.size (by have:=N1.out;have:=N7.out;omega)
     have AP:=Lib.hid ap
     have O6:=Lib.hid o6.rb
     have Q6:=Lib.hid (S12.out.trans b6)
     clear dd e1 e2 ap o6 b6 hF hFM
     subst h1
     rcases h2:ist fr with _ | _
     ·have DD2:Hid (D=1∧E=0):=Lib.hid (by rw [DD.out.1,DD.out.2,h2];simp)
      clear O12 R12
      go_wp2_with (first | (at_builtin;refine wpl_app rfl _ _ 46 rfl _ _ _ _ rfl rfl AP.out ?_) | (go_at_call 16;first | (refine (rTime_any _ _).mono ?_;rintro y13 w13 ⟨rfl,hw⟩;replace hw:=hw.symm;subst hw)))
      go_meet
      case rel=>exact ⟨by rw [DD2.out.2],by rw [DD2.out.1],Q6.out⟩
     rcases h3:ist t with _ | _
     ·have DD2:Hid (D=1∧E=0):=Lib.hid (by rw [DD.out.1,DD.out.2,h3];simp)
      clear O12 R12
      go_wp2_with (first | (at_builtin;refine wpl_app rfl _ _ 46 rfl _ _ _ _ rfl rfl AP.out ?_) | (go_at_call 16;first | (refine (rTime_any _ _).mono ?_;rintro y13 w13 ⟨rfl,hw⟩;replace hw:=hw.symm;subst hw)))
      go_meet
      case rel=>exact ⟨by rw [DD2.out.2],by rw [DD2.out.1],Q6.out⟩
     by_cases h4:t<fr
     ·have DD2:Hid (D=3∧E=0):=Lib.hid (by rw [DD.out.1,DD.out.2,h2,h3];simp [h4])
      clear O12 R12
      go_wp2_with (first | (at_builtin;refine wpl_app rfl _ _ 46 rfl _ _ _ _ rfl rfl AP.out ?_) | (go_at_call 16;first | (refine (rTime_any _ _).mono ?_;rintro y13 w13 ⟨rfl,hw⟩;replace hw:=hw.symm;subst hw)))
      go_meet
      case rel=>exact ⟨by rw [DD2.out.2],by rw [DD2.out.1],Q6.out⟩
     have DD2:Hid (D=slE len (fre t fr (nrm (NM++N)))∧E=slT len (fre t fr (nrm (NM++N)))):=Lib.hid (by rw [DD.out.1,DD.out.2,h2,h3];simp [h4])
     have SM:=Lib.hid (fre_sm GC.out h2 h3)
     have FLn:Hid ((fre t fr (nrm (NM++N))).length≤1000000):=Lib.hid (by
      have:=fre_len t (nrm (NM++N)) fr
      have:=nrm_len (gd_rt GC.out)
      have:=LC.out
      omega)
     have KF:=Lib.hid (rFree_any (NM++N) fr t v6 w6 O6.out (by have:=LC.out;omega) (gd_rt GC.out))
     clear O12 R12
     go_wp2_with (first | (at_builtin;refine wpl_app rfl _ _ 46 rfl _ _ _ _ rfl rfl AP.out ?_) | (go_at_call 16;first | (refine (rTime_any _ _).mono ?_;rintro y13 w13 ⟨rfl,hw⟩;replace hw:=hw.symm;subst hw)))
     refine KF.out.mono ?_
     rintro y13 w13 ⟨u13,rfl,o13,hb⟩
     have Q13:=Lib.hid (Q6.out.trans (hb.mono Q6.out.size))
     have KL:=Lib.hid (rSlot_any len _ u13 w13 o13.rb FLn.out SM.out)
     clear o13 hb KF
     go_wp2_with fail
     refine KL.out.mono ?_
     rintro y14 w14 ⟨rfl,hb⟩
     have Q14:=Lib.hid (Q13.out.trans (hb.mono Q13.out.size))
     clear hb KL
     go_wp2_with fail
     go_meet
     case rel=>exact ⟨by rw [DD2.out.2],by rw [DD2.out.1],Q14.out⟩
    case rest=>
    as_aux_lemma=>
    obtain ⟨rfl,rfl,hb⟩:=hcut
    have B12:=Lib.hid (B11.out.trans (hb.mono B11.out.size))
    have X12:=Lib.hid (X11.out.on hb)
    have U12:=Lib.hid (U11.out.on hb)
    clear hb B11 X11 U11 R12 S12 O12 HF1
    obtain ⟨z0,z1⟩:=X12.out
    obtain ⟨y0,y1⟩:=U12.out
    have zll:=cell_in z0
    have yll:=cell_in y0
    go_wp2_with fail
    clear z0 z1 y0 y1 zll yll
    have n1:=below_one wc (.cells #[.int .i64 a,.slice sa l.length sc,.int .i64 b,.slice sb m.length sd] 24)
    have k0:∀ j v,([.int .i64 a,.slice sa l.length sc,.int .i64 b,.slice sb m.length sd]:List Value)[j]?=some v→(wc.alloc (.cells #[.int .i64 a,.slice sa l.length sc,.int .i64 b,.slice sb m.length sd] 24)).cell? ⟨wc.heap.size,j,none⟩=some v:=fun j v hv=>by
     simp only [World.cell?,heap_alloc_new wc (.cells #[.int .i64 a,.slice sa l.length sc,.int .i64 b,.slice sb m.length sd] 24)]
     simpa using hv
    have s6:(wc.alloc (.cells #[.int .i64 a,.slice sa l.length sc,.int .i64 b,.slice sb m.length sd] 24)).heap.size=wc.heap.size + 1:=World.size_alloc _ _
    obtain ⟨W6,hW6⟩:∃ W6,W6=wc.alloc (.cells #[.int .i64 a,.slice sa l.length sc,.int .i64 b,.slice sb m.length sd] 24):=⟨_,rfl⟩
    rw [← hW6] at n1 k0 s6 ⊢
    have n2:=below_one W6 (.cells #[.slice ae L.length ce,.slice af M.length cf] 25)
    have k2:∀ j v,([.slice ae L.length ce,.slice af M.length cf]:List Value)[j]?=some v→(W6.alloc (.cells #[.slice ae L.length ce,.slice af M.length cf] 25)).cell? ⟨W6.heap.size,j,none⟩=some v:=fun j v hv=>by
     simp only [World.cell?,heap_alloc_new W6 (.cells #[.slice ae L.length ce,.slice af M.length cf] 25)]
     simpa using hv
    obtain ⟨W7,hW7⟩:∃ W7,W7=W6.alloc (.cells #[.slice ae L.length ce,.slice af M.length cf] 25):=⟨_,rfl⟩
    rw [← hW7] at n2 k2 ⊢
    rw [s6] at k2
    have k3:∀ j v,([.int .i64 a,.slice sa l.length sc,.int .i64 b,.slice sb m.length sd]:List Value)[j]?=some v→W7.cell? ⟨wc.heap.size,j,none⟩=some v:=fun j v hv=>(n2.cell (p:=⟨wc.heap.size,j,none⟩) (by show wc.heap.size<_;omega)).trans (k0 j v hv)
    have n12:=n1.trans (n2.mono n1.size)
    have B13:=Lib.hid (B12.out.trans (n12.mono B12.out.size))
    have K:=meetL_any HS.out a l sa sc L ae ce b m sb sd M af cf fr t len wc.heap.size (wc.heap.size + 1) W7 k3 k2 (HZ.out _ B13.out) (HY.out _ B13.out) (HL.out _ B13.out) (HM.out _ B13.out) hl hm (HT.out _ B13.out)
    rw [HFL.out,HFM.out,HNL.out,HNM.out,← HD.out,← HEE.out] at K
    clear n1 n2 k0 k2 k3 s6 hW6 hW7 n12 B12 X12 U12
    refine K.mono ?_
    clear K
    rintro y13 w13 ⟨rfl,hb⟩
    have B14:=Lib.hid (B13.out.trans (hb.mono B13.out.size))
    clear hb B13
    have KD:=Lib.hid (errT_fault D w13 (HG.out _ B14.out))
    go_wp2_with fail
    refine KD.out.mono ?_
    rintro y14 w14 ⟨rfl,hb⟩
    have B15:=Lib.hid (B14.out.trans (hb.mono B14.out.size))
    clear hb B14 KD HFL HFM HNL HNM HD HEE HS HZ HY HM HSM K3 N1 GN N7 G7
    as_aux_lemma=>
    obtain ⟨Dm,hDm,KDm⟩:∃ Dm:Int,(Dm=0↔¬ isMn y mo)∧∀ W,Calls Tryz.prog 19 #[.int .i64 y,.int .i64 mo] W fun e w'=>e=.returned (.int .i64 Dm)∧w'=W:=by
     by_cases q:isMn y mo
     ·have:=ml_bd y mo
      exact ⟨ml y mo,⟨fun z=>by omega,fun z=>absurd q z⟩,fun W=>refDays_yes y mo W q.1 q.2.1 q.2.2.1 q.2.2.2⟩
     ·exact ⟨0,⟨fun _=>q,fun _=>rfl⟩,fun W=>refDays_no y mo W q⟩
    have KY:=Lib.hid KDm
    obtain ⟨RF,hRF⟩:∃ RF,RF=ldF y mo L:=⟨_,rfl⟩
    have HRF:=Lib.hid hRF
    obtain ⟨e0,he0⟩:∃ e0:Int,e0=if Dm=0 then 1 else if 20<L.length then 4 else 0:=⟨_,rfl⟩
    have HE0:=Lib.hid he0
    have ST0:Hid ((e0=0∧RF=teG evF (L.drop 0))∨(¬ e0=0∧e0=RF)):=Lib.hid (by
     rw [hRF,he0]
     unfold ldF
     by_cases q1:Dm=0
     ·have q2:=hDm.1 q1
      simp [q1,q2]
     ·have q2:isMn y mo:=Decidable.byContradiction (fun z=>q1 (hDm.2 z))
      by_cases q3:20<L.length
      ·simp [q1,q2,q3]
      ·simp [q1,q2,q3])
    clear KDm hRF he0 hDm
    go_upto_if 193 with (go_at_call 19;refine (KY.out _).mono ?_;rintro y15 w15 ⟨rfl,hw⟩;replace hw:=hw.symm;subst hw)
    go_cut [20] from 190 to 196 (fun s20 wx=>s20=.int .i64 e0∧wx=w14)
    case first=>
     by_cases q1:Dm=0
     ·have N:=Lib.hid (HE0.out.trans (if_pos q1))
      go_wp2_with fail
      go_meet
      case rel=>exact ⟨by rw [N.out],rfl⟩
     by_cases q2:20<L.length
     ·have N:=Lib.hid ((HE0.out.trans (if_neg q1)).trans (if_pos q2))
      have n2:(20:Int)<(L.length:Int):=by omega
      go_wp2_with fail
      go_meet
      case rel=>exact ⟨by rw [N.out],rfl⟩
     have N:=Lib.hid ((HE0.out.trans (if_neg q1)).trans (if_neg q2))
     have n2:¬ (20:Int)<(L.length:Int):=by omega
     go_wp2_with fail
     go_meet
     case rel=>exact ⟨by rw [N.out],rfl⟩
    case rest=>
    obtain ⟨rfl,hw⟩:=hcut
    subst hw
    obtain ⟨w15,hw15⟩:∃ w15,w15=wc:=⟨_,rfl⟩
    rw [← hw15] at B15 ⊢
    clear hw15
    have S14:=Lib.hid (Below.refl w15.heap.size w15)
    go_wp2_with fail
    go_loopw [20,40] (fun ev kv wr=>∃ (x:Int) (k:Nat),k≤L.length∧ev=.int .i64 x∧kv=.int .i64 k∧Hid ((x=0∧RF=teG evF (L.drop k))∨(¬ x=0∧x=RF))∧Below w15.heap.size w15 wr) (fun _ kv _=>L.length - (intOf kv).toNat)
    case atStart=>exact ⟨e0,0,Nat.zero_le _,rfl,rfl,ST0,S14.out⟩
    case round=>
     obtain ⟨x,k,hk,rfl,rfl,HI,hB⟩:=hrel
     have HB:=Lib.hid hB
     have BW:=Lib.hid (B15.out.trans (hB.mono B15.out.size))
     by_cases hx:k<L.length∧x=0
     case pos=>
      obtain ⟨hlt,h0⟩:=hx
      obtain ⟨b1,o1,ea,_,bq,hr,hE⟩:=evl_at (HL.out _ BW.out) hlt
      subst ea
      have HSx:=HSL.out _ (List.getElem_mem hlt)
      have SG:=Lib.hid (teG_step evF hlt)
      generalize L[k]=X at hr hE SG HSx
      obtain ⟨e,s⟩:=X
      dsimp only at hE SG HSx
      have HR:=Lib.hid hr
      have KE:=Lib.hid (refEvent_any e s wr hE HSx)
      have NX:Hid ((evF e=0∧RF=teG evF (L.drop (k + 1)))∨(¬ evF e=0∧evF e=RF)):=Lib.hid (by
       have g:RF=teG evF (L.drop k):=HI.out.elim (fun z=>z.2) (fun z=>absurd h0 z.1)
       rw [SG.out] at g
       by_cases z:evF e=0
       ·rw [if_pos z] at g
        exact Or.inl ⟨z,g⟩
       ·rw [if_neg z] at g
        exact Or.inr ⟨z,g.symm⟩)
      subst h0
      clear hr hE hB SG HSx HI
      go_wp2_with (refine evr_load (by rfl) (.tmp 209) (by rfl) b1 (o1 + k * 17) e s (by rfl) HR.out ?_)
      refine KE.out.mono ?_
      rintro y16 w16 ⟨rfl,hb⟩
      have B16:=Lib.hid (HB.out.trans (hb.mono HB.out.size))
      clear hb KE
      go_wp2_with fail
      go_roundw
      case rel=>exact ⟨evF e,k + 1,by omega,rfl,by go_num,NX,B16.out⟩
      case measure=>simp [intOf];omega
     have XR:Hid (x=RF):=Lib.hid (by
      rcases HI.out with ⟨z1,z2⟩ | ⟨_,z⟩
      ·have:k=L.length:=by omega
       rw [this,List.drop_length] at z2
       rw [z1,z2]
       rfl
      ·exact z)
     obtain ⟨w17,hw17⟩:∃ w17,w17=wr:=⟨_,rfl⟩
     subst hw17
     have B17:=BW
     clear hB HB HI S14 B15 ST0 HE0 BW
     obtain ⟨RLs,hRL⟩:∃ RLs,RLs=ldL y mo L:=⟨_,rfl⟩
     have HRL:=Lib.hid hRL
     clear hRL
     rw [XR.out]
     have XR0:=XR.out
     by_cases q1:k<L.length
     ·have q2:¬ RF=0:=fun z=>hx ⟨q1,XR0.trans z⟩
      clear hx XR0
      as_aux_lemma=>
      go_upto_if 213 with fail
      go_cut [41] from 212 to 217 (fun s41 wx=>∃ u,s41=u∧Hid (Ints wx u RLs)∧Below w17.heap.size w17 wx)
      case first=>
       by_cases q9:RF=0
       case pos=>exact absurd q9 q2
       have EN:Hid (RLs=[]):=Lib.hid (HRL.out.trans (if_neg (fun z=>q9 (HRF.out.trans z))))
       have BR:=Lib.hid (Below.refl w17.heap.size w17)
       go_wp2_with fail
       go_meet
       case rel=>exact ⟨_,rfl,Lib.hid (by rw [EN.out];exact nil_int _),BR.out⟩
      case rest=>
      obtain ⟨u18,hu,I18,hb⟩:=hcut
      subst hu
      have B18:=Lib.hid (B17.out.trans (hb.mono B17.out.size))
      clear hb B17
      have KL:=load_any L y mo _ wc (HL.out _ B18.out) hl (HT.out _ B18.out)
      rw [← HRF.out,← HRL.out] at KL
      have KH:=Lib.hid KL
      have RLn:Hid (RLs.length≤2000000):=Lib.hid (by
       rw [HRL.out]
       unfold ldL
       split
       ·rw [ldG_len,List.length_replicate]
        have:=ml_bd y mo
        omega
       ·simp)
      clear KL
      go_wp2_with fail
      refine KH.out.mono ?_
      rintro y19 w19 ⟨u19,rfl,i19,hb⟩
      have B19:=Lib.hid (B18.out.trans (hb.mono B18.out.size))
      have I19:=Lib.hid (And.intro (I18.out.on hb) i19.ints)
      clear hb i19 KH I18 B18
      have KE:=Lib.hid (errT_fault RF w19 (HG.out _ B19.out))
      go_wp2_with fail
      refine KE.out.mono ?_
      rintro y20 w20 ⟨rfl,hb⟩
      have B20:=Lib.hid (B19.out.trans (hb.mono B19.out.size))
      have KI:=Lib.hid (sameInts RLs _ _ w20 (I19.out.2.on hb) (I19.out.1.on hb) RLn.out)
      clear hb KE I19 B19
      go_wp2_with fail
      refine KI.out.mono ?_
      rintro y21 w21 ⟨rfl,hb⟩
      have B21:=Lib.hid (B20.out.trans (hb.mono B20.out.size))
      clear hb KI B20
      go_wp2_with fail
      go_ret
      exact ⟨by simp,B21.out⟩
     clear hx XR0
     as_aux_lemma=>
     go_upto_if 213 with fail
     go_cut [41] from 212 to 217 (fun s41 wx=>∃ u,s41=u∧Hid (Ints wx u RLs)∧Below w17.heap.size w17 wx)
     case first=>
      rcases hq:(RF == 0) with _ | _
      case true=>
       have Q9:Hid (RF=0):=Lib.hid (by simpa using hq)
       have OKL:=Lib.hid (ld_zero (HRF.out.symm.trans Q9.out))
       have KR:=Lib.hid (refLoad_any L y mo _ w17 (HL.out _ B17.out) OKL.out.2.1 OKL.out.2.2 OKL.out.1)
       have EL9:Hid (RLs=ldG (mlo y mo) (mhi y mo) (List.replicate (ml y mo).toNat 0) L):=Lib.hid (HRL.out.trans (if_pos (HRF.out.symm.trans Q9.out)))
       rw [← EL9.out] at KR
       go_wp2_with fail
       refine KR.out.mono ?_
       rintro y18 w18 ⟨u18,rfl,i18,hb⟩
       have Q18:=Lib.hid (And.intro i18 hb)
       clear i18 hb KR
       go_wp2_with fail
       go_meet
       case rel=>exact ⟨u18,rfl,Lib.hid Q18.out.1,Q18.out.2⟩
      have EN:Hid (RLs=[]):=Lib.hid (HRL.out.trans (if_neg (fun z=>by
       have:=HRF.out.trans z
       rw [this] at hq
       simp at hq)))
      have BR:=Lib.hid (Below.refl w17.heap.size w17)
      go_wp2_with fail
      go_meet
      case rel=>exact ⟨_,rfl,Lib.hid (by rw [EN.out];exact nil_int _),BR.out⟩
     case rest=>
     obtain ⟨u18,hu,I18,hb⟩:=hcut
     subst hu
     have B18:=Lib.hid (B17.out.trans (hb.mono B17.out.size))
     clear hb B17
     have KL:=load_any L y mo _ wc (HL.out _ B18.out) hl (HT.out _ B18.out)
     rw [← HRF.out,← HRL.out] at KL
     have KH:=Lib.hid KL
     have RLn:Hid (RLs.length≤2000000):=Lib.hid (by
      rw [HRL.out]
      unfold ldL
      split
      ·rw [ldG_len,List.length_replicate]
       have:=ml_bd y mo
       omega
      ·simp)
     clear KL
     go_wp2_with fail
     refine KH.out.mono ?_
     rintro y19 w19 ⟨u19,rfl,i19,hb⟩
     have B19:=Lib.hid (B18.out.trans (hb.mono B18.out.size))
     have I19:=Lib.hid (And.intro (I18.out.on hb) i19.ints)
     clear hb i19 KH I18 B18
     have KE:=Lib.hid (errT_fault RF w19 (HG.out _ B19.out))
     go_wp2_with fail
     refine KE.out.mono ?_
     rintro y20 w20 ⟨rfl,hb⟩
     have B20:=Lib.hid (B19.out.trans (hb.mono B19.out.size))
     have KI:=Lib.hid (sameInts RLs _ _ w20 (I19.out.2.on hb) (I19.out.1.on hb) RLn.out)
     clear hb KE I19 B19
     go_wp2_with fail
     refine KI.out.mono ?_
     rintro y21 w21 ⟨rfl,hb⟩
     have B21:=Lib.hid (B20.out.trans (hb.mono B20.out.size))
     clear hb KI B20
     go_wp2_with fail
     go_ret
     exact ⟨by simp,B21.out⟩
  obtain ⟨ub,uoff,p,c,ea,hc⟩:=ROW.out i hlt
  subst ea
  have CI:=Lib.hid hc
  have lA:=LN.out i hlt
  have SO:=Lib.hid (cOut_step TK i (by rw [LMP.out];exact hlt))
  have G0:Hid (g++(cIn TK i (i + 1)++cOut TK (i + 1))=cOut TK 0):=Lib.hid (by rw [← SO.out];exact HGo.out)
  have STi:=Lib.hid (fun k hk=>ST.out i k hlt hk)
  generalize LL.getD i []=A at CI lA STi
  clear hc SO HGo hB
  go_wp2_with fail
  go_loopw [28,26,29] (fun kv xv _ wr=>∃ (k:Nat) (x:Value) (g:List Bz),k≤LL.length∧kv=.int .i64 k∧xv=x∧Hid (Oc wr w7.heap.size x g)∧Hid (g++(cIn TK i k++cOut TK (i + 1))=cOut TK 0)∧Hid (g.length + i + 1≤20 * i + k)∧Below w7.heap.size w7 wr) (fun kv _ _ _=>LL.length - (intOf kv).toNat)
  case atStart=>exact ⟨i + 1,x,g,by omega,by go_num,rfl,HO,G0,Lib.hid (by have:=HLn.out;omega),HB.out⟩
  case round=>
   clear HO G0 HLn HB
   obtain ⟨k,x2,g2,hk,rfl,hx2,HO,HGi,HLi,hB2⟩:=hrel
   replace hx2:=hx2.symm
   subst hx2
   have HB2:=Lib.hid hB2
   by_cases hkl:k<LL.length
   case neg=>
    have G9:Hid (g2++cOut TK (i + 1)=cOut TK 0):=Lib.hid (by have:=HGi.out;rwa [cIn_end TK i k (by rw [LMP.out];omega),List.nil_append] at this)
    have L9:Hid (g2.length≤20 * (i + 1)):=Lib.hid (by have:=HLi.out;omega)
    clear hB2
    go_wp2_with fail
    go_roundw
    case rel=>exact ⟨i + 1,x2,g2,by omega,by go_num,rfl,HO,G9,L9,HB2.out⟩
    case measure=>simp [intOf];omega
   obtain ⟨ub2,uoff2,p2,c2,ea2,hc2⟩:=ROW.out k hkl
   simp only [Option.some.injEq,Addr.mk.injEq,and_true] at ea2
   obtain ⟨rfl,rfl⟩:=ea2
   have SI:=Lib.hid (STi.out k hkl)
   have lB:=LN.out k hkl
   generalize LL.getD k []=C at hc2 lB SI
   have c0:=(CI.out _ hB2).1
   have d0:=(hc2 _ hB2).1
   have dl:=cell_in d0
   have KS:=Lib.hid (fun q=>meetT_any A C _ _ (wr.drewN q) (CI.out _ (bel_dn hB2 q)).2 (hc2 _ (bel_dn hB2 q)).2 (by omega) (by omega))
   have OL:g2.length≤1000000:=by have:=HLi.out;omega
   generalize mmL A C=S at SI KS
   clear hc2 hB2
   go_wp2_with fail
   go_quiet ((go_at_call 14;exact Calls.quiet_of_same (KS.out _)))
   have B4:Hid (Below w7.heap.size w7 (wr.drewN nq)):=Lib.hid (bel_dn HB2.out nq)
   have O4:Hid (Oc (wr.drewN nq) w7.heap.size x2 g2):=Lib.hid (ow_below HO.out (bel_dn (Below.refl _ _) nq))
   generalize wr.drewN nq=w8 at B4 O4 ⊢
   clear KS c0 d0 dl HO
   rcases S with _ | _
   ·have G9:Hid (g2++(cIn TK i (k + 1)++cOut TK (i + 1))=cOut TK 0):=Lib.hid (by rw [← HGi.out,SI.out];rfl)
    have L9:Hid (g2.length + i + 1≤20 * i + (k + 1)):=Lib.hid (by have:=HLi.out;omega)
    go_wp2_with fail
    go_roundw
    case rel=>exact ⟨k + 1,x2,g2,by omega,by go_num,rfl,O4,G9,L9,B4.out⟩
    case measure=>simp [intOf];omega
   ·obtain ⟨v6,w6,ap,o6,b6,_⟩:=apc_own ((i:Int),(k:Int)) O4.out B4.out.size OL
    have AP:=Lib.hid ap
    have O6:=Lib.hid o6
    have B6:Hid (Below w7.heap.size w7 w6):=Lib.hid (B4.out.trans b6)
    have G9:Hid ((g2++[((i:Int),(k:Int))])++(cIn TK i (k + 1)++cOut TK (i + 1))=cOut TK 0):=Lib.hid (by rw [← HGi.out,SI.out];simp)
    have L9:Hid ((g2++[((i:Int),(k:Int))]).length + i + 1≤20 * i + (k + 1)):=Lib.hid (by have:=HLi.out;rw [List.length_append];simp;omega)
    clear ap o6 b6
    go_wp2_with (at_builtin;refine wpl_app rfl _ _ 56 rfl _ _ _ _ rfl rfl AP.out ?_)
    go_roundw
    case rel=>exact ⟨k + 1,v6,_,by omega,by go_num,rfl,O6,G9,L9,B6.out⟩
    case measure=>simp [intOf];omega
end Go.Proofs.YtoncfgfjdlgfcaaGreatDoor.Pp
