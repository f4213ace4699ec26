/-
  Texts of our own that serve the card of this claim, joined into one.
-/
import Derived.Test.YtcadomjkjoiakaaGreatDoorQK
import Derived.Test.YtcadomjkjoiakaaGreatDoorQY
import Derived.Test.YtcadomjkjoiakaaGreatDoorQU
import Derived.Test.YtcadomjkjoiakaaGreatDoorRL
import Derived.Deep.CutRange
import Derived.Deep.RegionHeld3
import Derived.Test.YtcadomjkjoiakaaGreatDoorLnTxs
import Derived.Test.YtcadomjkjoiakaaGreatDoorQJ
namespace Go.Proofs.YtcadomjkjoiakaaGreatDoor
open Go.RowKit Cal Txt Ln Cb
theorem printTime_any (t:Int) (w:World) (hT:Tab w) (hP:Pow w) (h:ist t=true) :
 Calls Tryz.prog 66 #[.int .i64 t] w fun e w'=>e=.returned (.string (tb (txt t)))∧Below w.heap.size w w':=by
 have q:1≤t∧t≤157785119:=of_decide_eq_true h
 have K:=Lib.hid (print_yes t w hT hP q.1 q.2)
 clear hT hP h q
 go_enter Tryz.func66,Tryz.ntmps66
 go_wp2_with fail
 refine K.out.mono ?_
 rintro e w1 ⟨rfl,hb⟩
 have HB:=Lib.hid hb
 clear hb K
 go_wp2
 go_ret
 exact ⟨rfl,HB.out⟩
theorem printSpan_any (n:Int) (w:World) (hP:Pow w) (hU:Uni w) (h1:-1000000≤n) (h2:n≤1000000) :
 Calls Tryz.prog 67 #[.int .i64 n] w fun e w'=>e=.returned (.string (tb (spt n)))∧Below w.heap.size w w':=by
 have K:=Lib.hid (pspan_yes n w hP hU h1 h2)
 clear hP hU h1 h2
 go_enter Tryz.func67,Tryz.ntmps67
 go_wp2_with fail
 refine K.out.mono ?_
 rintro e w1 ⟨rfl,hb⟩
 have HB:=Lib.hid hb
 clear hb K
 go_wp2
 go_ret
 exact ⟨rfl,HB.out⟩
set_option maxRecDepth 100000 in
set_option maxHeartbeats 2000000 in
theorem printRule_any (r:Rl) (v:Value) (w:World) (hv:RuleIn w v r) (hT:Tab w) (hP:Pow w) (hF:FrW w) (hA:PaW w) (hW:WdW w) (h:rf r=0) :
 Calls Tryz.prog 68 #[v] w fun e w'=>e=.returned (.string (tb (rt r)))∧Below w.heap.size w w':=by
 have B0:=(Below.refl w.heap.size w)
 obtain ⟨vm,vd,vw,vp,rfl,hm,hd,hw,hp⟩:=hv
 obtain ⟨am,cm,rfl,x1⟩:=id hm
 obtain ⟨ad,cd,rfl,x2⟩:=id hd
 obtain ⟨aw,cw,rfl,x3⟩:=id hw
 obtain ⟨ap,cp,rfl,x4⟩:=id hp
 have hb0:=(Below.refl w.heap.size w).alloc (Nat.le_refl _) (.cells #[.int .i64 r.freq,.int .i64 r.every,.int .i64 r.count,.int .i64 r.till,.slice am r.months.length cm,.slice ad r.days.length cd,.slice aw r.weeks.length cw,.slice ap r.pick.length cp] 28)
 have K:=Lib.hid (rprint_any r (.agg #[.int .i64 r.freq,.int .i64 r.every,.int .i64 r.count,.int .i64 r.till,.slice am r.months.length cm,.slice ad r.days.length cd,.slice aw r.weeks.length cw,.slice ap r.pick.length cp]) _ ⟨_,_,_,_,rfl,hm.on hb0,hd.on hb0,hw.on hb0,hp.on hb0⟩ (hT.below hb0) (hP.below hb0) (hF.below hb0) (hA.below hb0) (hW.below hb0))
 rw [if_pos h,h] at K
 have HB0:=Lib.hid hb0
 clear hm hd hw hp x1 x2 x3 x4 hT hP hF hA hW h hb0 B0
 go_enter Tryz.func68,Tryz.ntmps68
 go_wp2_with fail
 refine K.out.mono ?_
 rintro e w1 ⟨rfl,hb⟩
 have HB:=Lib.hid (HB0.out.trans (hb.mono HB0.out.size))
 clear hb K HB0
 go_wp2
 go_ret
 exact ⟨rfl,HB.out⟩
theorem tb_app' (a b:List UInt8):tb a++tb b=tb (a++b):=by apply ByteArray.ext;simp [tb]
set_option maxRecDepth 100000 in
set_option maxHeartbeats 2000000 in
theorem printChange_any (c:Int × Int) (w:World) (hT:Tab w) (hP:Pow w) (h:chB c=true) :
 Calls Tryz.prog 71 #[.agg #[.int .i64 c.1,.int .i64 c.2]] w fun e w'=>e=.returned (.string (tb (vM c)))∧Below w.heap.size w w':=by
 unfold chB at h
 rw [Bool.and_eq_true,Bool.or_eq_true] at h
 obtain ⟨h1,h2⟩:=h
 have hb0:=(Below.refl w.heap.size w).alloc (Nat.le_refl _) (.cells #[.int .i64 c.1,.int .i64 c.2] 97)
 have HB0:=Lib.hid hb0
 have HT:=Lib.hid (hT.below hb0)
 have HP:=Lib.hid (hP.below hb0)
 have t0:(w.alloc (.cells #[.int .i64 c.1,.int .i64 c.2] 97)).cell? ⟨w.heap.size,0,none⟩=some (.int .i64 c.1):=by simp
 have t1:(w.alloc (.cells #[.int .i64 c.1,.int .i64 c.2] 97)).cell? ⟨w.heap.size,1,none⟩=some (.int .i64 c.2):=by simp
 have l16:∀ t,ist t=true→(tb (txt t)).size=16:=fun t q=>by
  have q:1≤t∧t≤157785119:=of_decide_eq_true q
  show (txt t).toArray.size=16
  simp [txt_len16 q.1 q.2]
 clear hT hP hb0
 rcases hz:(c.2 == 0) with _ | _
 ·have z:¬ c.2=0:=by simpa using hz
  have h2:ist c.2=true:=h2.resolve_left (by simpa using z)
  have N1:Hid (tb (txt c.1)++(⟨#[62]⟩:ByteArray)++tb (txt c.2)=tb (vM c)):=Lib.hid (by
   unfold vM
   rw [if_neg z,show txt c.1++62 :: txt c.2=txt c.1++[62]++txt c.2 by simp,← tb_app',← tb_app'];rfl)
  have n1:¬ 9223372036854775807<(tb (txt c.1)).size + 1:=by rw [l16 _ h1];omega
  have n2:¬ 9223372036854775807<(tb (txt c.1)).size + 1 + (tb (txt c.2)).size:=by rw [l16 _ h1,l16 _ h2];omega
  have H1:=Lib.hid h1
  have H2:=Lib.hid h2
  clear h1 h2 z l16
  go_enter Tryz.func71,Tryz.ntmps71
  go_wp2_with fail
  generalize w.alloc (.cells #[.int .i64 c.1,.int .i64 c.2] 97)=W at HB0 HT HP t0 t1 ⊢
  have r0:=cell_regrown t0
  have r1:=cell_regrown t1
  refine wp_region_quiet_below (by kernel_rfl) (by kernel_rfl) ?_
  repeat (quiet_step (first
   | (go_at_call_of 66 (Value.int .i64 c.1);exact Calls.regrown_of (printTime_any _ _ (HT.out.below (below_regrown W _ _)) (HP.out.below (below_regrown W _ _)) H1.out))
   | (go_at_call_of 66 (Value.int .i64 c.2);exact Calls.regrown_of (printTime_any _ _ (HT.out.below (below_regrown W _ _)) (HP.out.below (below_regrown W _ _)) H2.out))))
  refine wpQuiet_nil ?_
  intro _ hw'
  obtain ⟨⟨dq,osq⟩,hw''⟩:=hw'
  subst hw''
  have hB2:=HB0.out.trans ((below_regrown W dq osq).mono HB0.out.size)
  generalize Sort.grow (redrawn W dq) osq=W3 at hB2 ⊢
  clear r0 r1 t0 t1 HT HP HB0
  go_wp2
  go_ret
  exact ⟨ret_ba N1.out,hB2⟩
 ·have z:c.2=0:=by simpa using hz
  have N1:Hid (tb (txt c.1)++(⟨#[62]⟩:ByteArray)++(⟨#[45]⟩:ByteArray)=tb (vM c)):=Lib.hid (by
   unfold vM
   rw [if_pos z,show txt c.1++[62,45]=txt c.1++[62]++[45] by simp,← tb_app',← tb_app'];rfl)
  have n1:¬ 9223372036854775807<(tb (txt c.1)).size + 1:=by rw [l16 _ h1];omega
  have n2:¬ 9223372036854775807<(tb (txt c.1)).size + 1 + 1:=by rw [l16 _ h1];omega
  have H1:=Lib.hid h1
  clear h1 h2 l16 z
  go_enter Tryz.func71,Tryz.ntmps71
  go_wp2_with fail
  refine (printTime_any c.1 _ HT.out HP.out H1.out).mono ?_
  rintro e w1 ⟨rfl,hb⟩
  have HB:=Lib.hid (HB0.out.trans (hb.mono HB0.out.size))
  clear hb t0 t1 HT HP HB0
  go_wp2
  go_ret
  exact ⟨ret_ba N1.out,HB.out⟩
theorem join32 (a b c d:List UInt8):Lib.join [a,b,c,d] [32]=joinBy 32 [a,b,c,d]:=by simp [Lib.join,List.intercalate,joinBy]
theorem join_four (g c:Nat) (x1 x2 x3 x4:List UInt8) (w:World) (c0:w.cell? ⟨g,0,none⟩=some (.string (tb x1))) (c1:w.cell? ⟨g,1,none⟩=some (.string (tb x2))) (c2:w.cell? ⟨g,2,none⟩=some (.string (tb x3))) (c3:w.cell? ⟨g,3,none⟩=some (.string (tb x4))) (hc:4≤c) (hl:x1.length + x2.length + x3.length + x4.length≤1000) :
 Calls Tryz.prog 105 #[.slice (some ⟨g,0,none⟩) 4 c,.string ⟨#[32]⟩] w fun e w'=>e=.returned (.string (tb (joinBy 32 [x1,x2,x3,x4])))∧Below w.heap.size w w':=by
 have e1:Lib.join ([tb x1,tb x2,tb x3,tb x4].map (·.data.toList)) [32]=joinBy 32 [x1,x2,x3,x4]:=by
  show Lib.join [(tb x1).data.toList,(tb x2).data.toList,(tb x3).data.toList,(tb x4).data.toList] [32]=_
  rw [tb_data,tb_data,tb_data,tb_data,join32]
 have h:=Tryz.strings_Join g 0 c [tb x1,tb x2,tb x3,tb x4] ⟨#[32]⟩ w (fun j x hj=>by
  match j,hj with
  | 0,hj=>cases hj;exact c0
  | 1,hj=>cases hj;exact c1
  | 2,hj=>cases hj;exact c2
  | 3,hj=>cases hj;exact c3
  | n + 4,hj=>simp at hj) (ecell_in c0) (by simp) (by simpa using hc) (by
    show (Lib.join _ [32]).length≤_
    rw [e1]
    simp [joinBy]
    omega)
 refine h.mono ?_
 rintro e w' ⟨rfl,hb⟩
 exact ⟨by show Ending.returned (.string ⟨(Lib.join _ [32]).toArray⟩)=_;rw [e1];rfl,hb⟩
theorem alB_in {x:Int × Bool × Int × Int} (h:alF x=0):(-100000≤x.1∧x.1≤100000)∧(0≤x.2.2.1∧x.2.2.1≤5)∧0≤x.2.2.2∧x.2.2.2≤10000:=by
 unfold alF at h
 split at h
 ·rename_i q
  omega
 ·cases h
theorem nt_len5 {n:Int} (h0:0≤n) (h1:n≤5):(nt n).length≤1:=by
 unfold nt
 rw [if_neg (by omega)]
 exact dec_len n.natAbs 0 (by omega)
set_option maxRecDepth 100000 in
set_option maxHeartbeats 4000000 in
theorem printAlarm_any (o:Int) (b:Bool) (n t:Int) (w:World) (hP:Pow w) (hU:Uni w) (h:alF (o,b,n,t)=0) :
 Calls Tryz.prog 73 #[.agg #[.int .i64 o,.bool b,.int .i64 n,.int .i64 t]] w fun e w'=>e=.returned (.string (tb (vA (o,b,n,t))))∧Below w.heap.size w w':=by
 obtain ⟨⟨o1,o2⟩,⟨n1,n2⟩,t1,t2⟩:=alB_in h
 dsimp only at o1 o2 n1 n2 t1 t2
 have hb0:=(Below.refl w.heap.size w).alloc (Nat.le_refl _) (.cells #[.int .i64 o,.bool b,.int .i64 n,.int .i64 t] 50)
 have t0:(w.alloc (.cells #[.int .i64 o,.bool b,.int .i64 n,.int .i64 t] 50)).cell? ⟨w.heap.size,0,none⟩=some (.int .i64 o):=by simp
 have tb1:(w.alloc (.cells #[.int .i64 o,.bool b,.int .i64 n,.int .i64 t] 50)).cell? ⟨w.heap.size,1,none⟩=some (.bool b):=by simp
 have tn2:(w.alloc (.cells #[.int .i64 o,.bool b,.int .i64 n,.int .i64 t] 50)).cell? ⟨w.heap.size,2,none⟩=some (.int .i64 n):=by simp
 have tt3:(w.alloc (.cells #[.int .i64 o,.bool b,.int .i64 n,.int .i64 t] 50)).cell? ⟨w.heap.size,3,none⟩=some (.int .i64 t):=by simp
 obtain ⟨W,hW⟩:∃ W,W=w.alloc (.cells #[.int .i64 o,.bool b,.int .i64 n,.int .i64 t] 50):=⟨_,rfl⟩
 have hz:W.heap.size=w.heap.size + 1:=by rw [hW];simp
 rw [← hW] at hb0 t0 tb1 tn2 tt3
 have HW:=Lib.hid hW
 have HB0:=Lib.hid hb0
 have HS:Hid (∀ X,Below W.heap.size W X→(X.cell? ⟨w.heap.size,0,none⟩=some (.int .i64 o)∧X.cell? ⟨w.heap.size,2,none⟩=some (.int .i64 n)∧X.cell? ⟨w.heap.size,3,none⟩=some (.int .i64 t))):=Lib.hid (fun X q=>⟨(q.cell (p:=⟨w.heap.size,0,none⟩) (by show w.heap.size<_;omega)).trans t0,(q.cell (p:=⟨w.heap.size,2,none⟩) (by show w.heap.size<_;omega)).trans tn2,(q.cell (p:=⟨w.heap.size,3,none⟩) (by show w.heap.size<_;omega)).trans tt3⟩)
 have K1:Hid (∀ X,Below W.heap.size W X→Calls Tryz.prog 67 #[.int .i64 o] X fun e w'=>e=.returned (.string (tb (spt o)))∧Below X.heap.size X w'):=Lib.hid (fun X q=>printSpan_any o X ((hP.below hb0).below q) ((hU.below hb0).below q) (by omega) (by omega))
 have K2:Hid (∀ X,Below W.heap.size W X→Calls Tryz.prog 106 #[.int .i64 n] X fun e w'=>e=.returned (.string (tb (nt n)))∧Below X.heap.size X w'):=Lib.hid (fun X q=>itoa_nt n X ((hP.below hb0).below q) (by omega) (by omega))
 have K3:Hid (∀ X,Below W.heap.size W X→Calls Tryz.prog 67 #[.int .i64 t] X fun e w'=>e=.returned (.string (tb (spt t)))∧Below X.heap.size X w'):=Lib.hid (fun X q=>printSpan_any t X ((hP.below hb0).below q) ((hU.below hb0).below q) (by omega) (by omega))
 have LL:Hid (∀ z:List UInt8,z.length=1→(spt o).length + z.length + (nt n).length + (spt t).length≤1000):=Lib.hid (fun z hz'=>by
  have a1:=sptC_len (n:=o) (by omega) (by omega)
  have a2:=sptC_len (n:=t) (by omega) (by omega)
  have a3:=nt_len5 n1 n2
  omega)
 clear hb0 hP hU h o1 o2 n1 n2 t1 t2 t0 tn2 tt3 hW
 go_enter Tryz.func73,Tryz.ntmps73
 go_upto_region 1 with fail
 rw [← HW.out]
 clear HW
 cases b
 all_goals
  go_wp2_with fail
  go_region_held3 (fun X=>(X.cell? ⟨w.heap.size,0,none⟩=some (.int .i64 o)∧X.cell? ⟨w.heap.size,2,none⟩=some (.int .i64 n)∧X.cell? ⟨w.heap.size,3,none⟩=some (.int .i64 t)))
   (first | exact HS.out _ (Below.drew (Below.refl _ W)) | exact HS.out _ ha1 | exact HS.out _ ha2 | exact HS.out _ ha3 | exact HS.out _ (Below.alloc ha3 (Below.size ha3) _) | exact HS.out _ ha4)
   (first
   | (go_at_call_of 67 (Value.int .i64 o);refine (K1.out _ (Below.drew (Below.refl _ W))).mono ?_;rintro x wp ⟨rfl,hp⟩;have ha1:Below W.heap.size W wp:=Below.trans (Below.drew (Below.refl _ W)) hp;clear hp)
   | (go_at_call 106;refine (K2.out _ ha1).mono ?_;rintro x wp ⟨rfl,hp⟩;have ha2:Below W.heap.size W wp:=Below.trans ha1 (Below.mono hp (Below.size ha1));clear hp)
   | (go_at_call_of 67 (Value.int .i64 t);refine (K3.out _ ha2).mono ?_;rintro x wp ⟨rfl,hp⟩;have ha3:Below W.heap.size W wp:=Below.trans ha2 (Below.mono hp (Below.size ha2));clear hp)
   | (go_at_call 105;refine (join_four _ _ (spt o) _ (nt n) (spt t) _ (by simp) (by simp;rfl) (by simp) (by simp) (by decide) (LL.out _ rfl)).mono ?_;rintro x wp ⟨rfl,hp⟩;have ha4:Below W.heap.size W wp:=Below.trans (Below.alloc ha3 (Below.size ha3) _) (Below.mono hp (by have:=Below.size ha3;simp;omega));clear hp))
  have ZZ:=Lib.hid (HB0.out.trans (ha4.mono HB0.out.size))
  clear HS K1 K2 K3 LL ha1 ha2 ha3 ha4 HB0
  go_wp2
  go_ret
  exact ⟨rfl,ZZ.out⟩
end Go.Proofs.YtcadomjkjoiakaaGreatDoor
namespace Go.Proofs.YtcadomjkjoiakaaGreatDoor
open Go.RowKit Cal Txt Ln Cb
def Nw (B:Nat) (v:Value):Prop:=∀ a n c,v=.slice (some a) n c→B≤a.block
theorem own_nw {W:World} {B n sz:Nat} {t:TypeId} {v:Value} {xs:List Value} (h:W.ownsRow B t sz v n xs):Nw B v:=fun a k c e=>by
 rcases h.2 with ⟨q,_⟩ | ⟨g,cap,cur,q,hb,_⟩
 ·rw [q] at e;cases e
 ·rw [q] at e
  have:(⟨g,0,none⟩:Addr)=a:=by injection e with e1 e2 e3;injection e1
  rw [← this];exact hb
theorem Nw.mono {B C:Nat} {v:Value} (h:Nw B v) (k:C≤B):Nw C v:=fun a n c e=>Nat.le_trans k (h a n c e)
theorem gat_whole {α:Type} (tx:α→List UInt8) (l:List α):gat tx l l.length=(l.map tx).map tb:=by
 unfold gat
 rw [List.take_length,List.map_map]
 rfl
def VlA (ls:List (List UInt8)) (w:World) (e:Ending) (w':World):Prop:=∃ u,e=.returned u∧Txs w' u (ls.map tb)∧Nw w.heap.size u∧Below w.heap.size w w'
set_option maxRecDepth 100000 in
set_option maxHeartbeats 4000000 in
theorem each_int (g:FuncId) (tx:Int→List UInt8) (eg:∀ args w,(callFunc g args).run Tryz.prog w=.ok (.enter g args) w) (v:Value) (l:List (Int)) (w:World) (hv:Ints w v l) (hl:l.length≤100)
 (hg:∀ (x:Int),x∈l→∀ W,Below w.heap.size w W→Calls Tryz.prog g #[.int .i64 x] W fun e w'=>e=.returned (.string (tb (tx x)))∧Below W.heap.size W w') :
 Calls Tryz.prog 69 #[v,.func (.func g) #[] #[]] w (VlA (l.map tx) w):=by
 unfold VlA
 obtain ⟨i0,hi,hz0,hz1,hz2⟩:=info_parts info_str
 have HV:=Lib.hid hv
 have HG:=Lib.hid hg
 clear hg
 obtain ⟨a,cap,rfl,hc⟩:=hv
 rcases hc with rfl | ⟨b,off,rfl,hc⟩
 ·go_enter Tryz.func69,Tryz.ntmps69
  go_wp2_with (at_make;refine wpList_make_own _ rfl _ _ 61 rfl w.heap.size 9 i0 (.string ByteArray.empty) 1 Tryz.underlying61 hi hz0 hz1 _ _ _ 0 rfl rfl (by simp) ?b2 ?b3 (Nat.le_refl _) ?_)
  case b2=>rw [hz2];omega
  case b3=>unfold maxLen;omega
  intro w0 hown0 hgrow0
  have hB0:Below w.heap.size w w0:=(Below.refl _ _).grown hgrow0 (Nat.le_refl _) (fun k h=>by cases h)
  have ZZ:=Lib.hid (And.intro (own_txs (xs:=[]) hown0) (And.intro (own_nw hown0) hB0))
  clear hown0 hgrow0 hB0
  go_wp2
  go_loop [5,13] (fun v i=>v=.slice (some ⟨w.heap.size,0,none⟩) 0 0∧i=.int .i64 0) (fun _ _=>0)
  case atStart=>exact ⟨rfl,rfl⟩
  case round=>
   obtain ⟨rfl,rfl⟩:=hrel
   go_wp2
   go_ret
   exact ⟨_,rfl,ZZ.out⟩
 ·clear hc
  go_enter Tryz.func69,Tryz.ntmps69
  go_wp2_with (at_make;refine wpList_make_own _ rfl _ _ 61 rfl w.heap.size 9 i0 (.string ByteArray.empty) 1 Tryz.underlying61 hi hz0 hz1 _ _ _ l.length rfl rfl rfl ?b2 ?b3 (Nat.le_refl _) ?_)
  case b2=>rw [hz2];omega
  case b3=>unfold maxLen;omega
  intro w0 hown0 hgrow0
  have hB0:Below w.heap.size w w0:=(Below.refl _ _).grown hgrow0 (Nat.le_refl _) (fun k h=>by cases h)
  have HB0:=Lib.hid hB0
  have HO0:=Lib.hid hown0
  clear hown0 hgrow0 hB0
  go_wp2
  go_loopw [5,13] (fun v i wr=>∃ k:Nat,k≤l.length∧i=.int .i64 k∧wr.ownsRow w.heap.size 9 1 v k (strs (gat tx l k))∧Below w.heap.size w wr) (fun _ i _=>l.length - (intOf i).toNat)
  case atStart=>exact ⟨0,Nat.zero_le _,rfl,HO0.out,HB0.out⟩
  case round=>
   clear HO0 HB0
   obtain ⟨k,hk,rfl,hown,hB⟩:=hrel
   have HO:=Lib.hid hown
   clear hown
   by_cases hlt:k<l.length
   ·obtain ⟨a',c',e',hc⟩:=HV.out.on hB
    rcases hc with hc | ⟨b',off',ea,hc⟩
    ·rw [hc] at hlt;simp at hlt
    obtain ⟨⟨rfl,rfl⟩,rfl⟩:(b=b'∧off=off')∧cap=c':=by simpa [ea] using e'
    have ck:=hc k hlt
    obtain ⟨x,hx⟩:∃ x,x=l.getD k 0:=⟨_,rfl⟩
    have hmem:x∈l:=by rw [hx,List.getD_eq_getElem?_getD,List.getElem?_eq_getElem hlt];exact List.getElem_mem hlt
    rw [← hx] at ck
    have HX:=Lib.hid hx
    have HM:=Lib.hid hmem
    clear hx hc ea e' hmem
    go_wp2_with fail
    refine (HG.out x HM.out _ hB).mono ?_
    rintro e w1 ⟨rfl,hb⟩
    have hx0:Below wr.heap.size wr w1:=hb
    clear hb
    have HX0:=Lib.hid hx0
    have HO1:=Lib.hid (own_below HO.out hx0)
    have sz:w.heap.size≤w1.heap.size:=by have:=hx0.size;have:=hB.size;omega
    clear hx0
    go_wp2_with (at_builtin;refine wpList_append_own _ rfl _ _ 61 rfl w.heap.size 9 i0 (.string ByteArray.empty) 1 16 Tryz.underlying61 hi hz0 hz1 hz2 rfl (by decide) _ _ _ rfl (HO1.out.alloc _) ⟨w1.heap.size,0,none⟩ 1 1 [.string (tb (tx x))] rfl rfl ?c1 ?c2 ?c3 ?c4 ?c5 ?_)
    case c1=>
     intro j u hj
     match j,hj with
     | 0,hj=>simp at hj;subst hj;simp [Addr.add]
    case c2=>intro u hu;simp at hu;subst hu;rfl
    case c3=>unfold maxLen;omega
    case c4=>omega
    case c5=>simp;omega
    intro v' w2 hown' hgrow _
    have R:=own_next hB.size hB HX0.out HO.out hown' hgrow
    have N1:=Lib.hid (gat_next tx l k 0 hlt)
    rw [← HX.out] at N1
    have R1:=Lib.hid R.1
    have R2:=Lib.hid R.2
    rw [← N1.out] at R1
    clear R hown' hgrow HO1 HO HX0 N1
    go_wp2
    go_roundw
    case rel=>exact ⟨k + 1,by omega,by go_num,R1.out,R2.out⟩
    case measure=>simp [intOf];omega
   ·have hkl:k=l.length:=by omega
    subst hkl
    have ZZ:=Lib.hid (And.intro (own_txs HO.out) (And.intro (own_nw HO.out) hB))
    rw [gat_whole] at ZZ
    obtain ⟨⟨a2,c2,rfl,_⟩,_⟩:=id ZZ.out
    clear HO
    go_wp2
    go_ret
    exact ⟨_,rfl,ZZ.out⟩
set_option maxRecDepth 100000 in
set_option maxHeartbeats 4000000 in
theorem each_chg (g:FuncId) (tx:Int × Int→List UInt8) (eg:∀ args w,(callFunc g args).run Tryz.prog w=.ok (.enter g args) w) (v:Value) (l:List (Int × Int)) (w:World) (hv:Nths w v l) (hl:l.length≤100)
 (hg:∀ (x:Int × Int),x∈l→∀ W,Below w.heap.size w W→Calls Tryz.prog g #[.agg #[.int .i64 x.1,.int .i64 x.2]] W fun e w'=>e=.returned (.string (tb (tx x)))∧Below W.heap.size W w') :
 Calls Tryz.prog 70 #[v,.func (.func g) #[] #[]] w (VlA (l.map tx) w):=by
 unfold VlA
 obtain ⟨i0,hi,hz0,hz1,hz2⟩:=info_parts info_str
 have HV:=Lib.hid hv
 have HG:=Lib.hid hg
 clear hg
 obtain ⟨a,cap,rfl,hc⟩:=hv
 rcases hc with rfl | ⟨b,off,rfl,hc⟩
 ·go_enter Tryz.func70,Tryz.ntmps70
  go_wp2_with (at_make;refine wpList_make_own _ rfl _ _ 61 rfl w.heap.size 9 i0 (.string ByteArray.empty) 1 Tryz.underlying61 hi hz0 hz1 _ _ _ 0 rfl rfl (by simp) ?b2 ?b3 (Nat.le_refl _) ?_)
  case b2=>rw [hz2];omega
  case b3=>unfold maxLen;omega
  intro w0 hown0 hgrow0
  have hB0:Below w.heap.size w w0:=(Below.refl _ _).grown hgrow0 (Nat.le_refl _) (fun k h=>by cases h)
  have ZZ:=Lib.hid (And.intro (own_txs (xs:=[]) hown0) (And.intro (own_nw hown0) hB0))
  clear hown0 hgrow0 hB0
  go_wp2
  go_loop [5,13] (fun v i=>v=.slice (some ⟨w.heap.size,0,none⟩) 0 0∧i=.int .i64 0) (fun _ _=>0)
  case atStart=>exact ⟨rfl,rfl⟩
  case round=>
   obtain ⟨rfl,rfl⟩:=hrel
   go_wp2
   go_ret
   exact ⟨_,rfl,ZZ.out⟩
 ·clear hc
  go_enter Tryz.func70,Tryz.ntmps70
  go_wp2_with (at_make;refine wpList_make_own _ rfl _ _ 61 rfl w.heap.size 9 i0 (.string ByteArray.empty) 1 Tryz.underlying61 hi hz0 hz1 _ _ _ l.length rfl rfl rfl ?b2 ?b3 (Nat.le_refl _) ?_)
  case b2=>rw [hz2];omega
  case b3=>unfold maxLen;omega
  intro w0 hown0 hgrow0
  have hB0:Below w.heap.size w w0:=(Below.refl _ _).grown hgrow0 (Nat.le_refl _) (fun k h=>by cases h)
  have HB0:=Lib.hid hB0
  have HO0:=Lib.hid hown0
  clear hown0 hgrow0 hB0
  go_wp2
  go_loopw [5,13] (fun v i wr=>∃ k:Nat,k≤l.length∧i=.int .i64 k∧wr.ownsRow w.heap.size 9 1 v k (strs (gat tx l k))∧Below w.heap.size w wr) (fun _ i _=>l.length - (intOf i).toNat)
  case atStart=>exact ⟨0,Nat.zero_le _,rfl,HO0.out,HB0.out⟩
  case round=>
   clear HO0 HB0
   obtain ⟨k,hk,rfl,hown,hB⟩:=hrel
   have HO:=Lib.hid hown
   clear hown
   by_cases hlt:k<l.length
   ·obtain ⟨a',c',e',hc⟩:=HV.out.on hB
    rcases hc with hc | ⟨b',off',ea,hc⟩
    ·rw [hc] at hlt;simp at hlt
    obtain ⟨⟨rfl,rfl⟩,rfl⟩:(b=b'∧off=off')∧cap=c':=by simpa [ea] using e'
    have ck:=hc k hlt
    obtain ⟨x,hx⟩:∃ x,x=l.getD k (0,0):=⟨_,rfl⟩
    have hmem:x∈l:=by rw [hx,List.getD_eq_getElem?_getD,List.getElem?_eq_getElem hlt];exact List.getElem_mem hlt
    rw [← hx] at ck
    obtain ⟨ck1,ck2⟩:=ck
    have HX:=Lib.hid hx
    have HM:=Lib.hid hmem
    clear hx hc ea e' hmem
    go_wp2_with fail
    refine (HG.out x HM.out _ (hB.alloc hB.size _)).mono ?_
    rintro e w1 ⟨rfl,hb⟩
    have hx0:Below wr.heap.size wr w1:=((Below.refl _ _).alloc (Nat.le_refl _) _).trans (hb.mono (by simp))
    clear hb
    have HX0:=Lib.hid hx0
    have HO1:=Lib.hid (own_below HO.out hx0)
    have sz:w.heap.size≤w1.heap.size:=by have:=hx0.size;have:=hB.size;omega
    clear hx0
    go_wp2_with (at_builtin;refine wpList_append_own _ rfl _ _ 61 rfl w.heap.size 9 i0 (.string ByteArray.empty) 1 16 Tryz.underlying61 hi hz0 hz1 hz2 rfl (by decide) _ _ _ rfl (HO1.out.alloc _) ⟨w1.heap.size,0,none⟩ 1 1 [.string (tb (tx x))] rfl rfl ?c1 ?c2 ?c3 ?c4 ?c5 ?_)
    case c1=>
     intro j u hj
     match j,hj with
     | 0,hj=>simp at hj;subst hj;simp [Addr.add]
    case c2=>intro u hu;simp at hu;subst hu;rfl
    case c3=>unfold maxLen;omega
    case c4=>omega
    case c5=>simp;omega
    intro v' w2 hown' hgrow _
    have R:=own_next hB.size hB HX0.out HO.out hown' hgrow
    have N1:=Lib.hid (gat_next tx l k (0,0) hlt)
    rw [← HX.out] at N1
    have R1:=Lib.hid R.1
    have R2:=Lib.hid R.2
    rw [← N1.out] at R1
    clear R hown' hgrow HO1 HO HX0 N1
    go_wp2
    go_roundw
    case rel=>exact ⟨k + 1,by omega,by go_num,R1.out,R2.out⟩
    case measure=>simp [intOf];omega
   ·have hkl:k=l.length:=by omega
    subst hkl
    have ZZ:=Lib.hid (And.intro (own_txs HO.out) (And.intro (own_nw HO.out) hB))
    rw [gat_whole] at ZZ
    obtain ⟨⟨a2,c2,rfl,_⟩,_⟩:=id ZZ.out
    clear HO
    go_wp2
    go_ret
    exact ⟨_,rfl,ZZ.out⟩
set_option maxRecDepth 100000 in
set_option maxHeartbeats 4000000 in
theorem each_alm (g:FuncId) (tx:Int × Bool × Int × Int→List UInt8) (eg:∀ args w,(callFunc g args).run Tryz.prog w=.ok (.enter g args) w) (v:Value) (l:List (Int × Bool × Int × Int)) (w:World) (hv:Alms w v l) (hl:l.length≤100)
 (hg:∀ (x:Int × Bool × Int × Int),x∈l→∀ W,Below w.heap.size w W→Calls Tryz.prog g #[.agg #[.int .i64 x.1,.bool x.2.1,.int .i64 x.2.2.1,.int .i64 x.2.2.2]] W fun e w'=>e=.returned (.string (tb (tx x)))∧Below W.heap.size W w') :
 Calls Tryz.prog 72 #[v,.func (.func g) #[] #[]] w (VlA (l.map tx) w):=by
 unfold VlA
 obtain ⟨i0,hi,hz0,hz1,hz2⟩:=info_parts info_str
 have HV:=Lib.hid hv
 have HG:=Lib.hid hg
 clear hg
 obtain ⟨a,cap,rfl,hc⟩:=hv
 rcases hc with rfl | ⟨b,off,rfl,hc⟩
 ·go_enter Tryz.func72,Tryz.ntmps72
  go_wp2_with (at_make;refine wpList_make_own _ rfl _ _ 61 rfl w.heap.size 9 i0 (.string ByteArray.empty) 1 Tryz.underlying61 hi hz0 hz1 _ _ _ 0 rfl rfl (by simp) ?b2 ?b3 (Nat.le_refl _) ?_)
  case b2=>rw [hz2];omega
  case b3=>unfold maxLen;omega
  intro w0 hown0 hgrow0
  have hB0:Below w.heap.size w w0:=(Below.refl _ _).grown hgrow0 (Nat.le_refl _) (fun k h=>by cases h)
  have ZZ:=Lib.hid (And.intro (own_txs (xs:=[]) hown0) (And.intro (own_nw hown0) hB0))
  clear hown0 hgrow0 hB0
  go_wp2
  go_loop [5,13] (fun v i=>v=.slice (some ⟨w.heap.size,0,none⟩) 0 0∧i=.int .i64 0) (fun _ _=>0)
  case atStart=>exact ⟨rfl,rfl⟩
  case round=>
   obtain ⟨rfl,rfl⟩:=hrel
   go_wp2
   go_ret
   exact ⟨_,rfl,ZZ.out⟩
 ·clear hc
  go_enter Tryz.func72,Tryz.ntmps72
  go_wp2_with (at_make;refine wpList_make_own _ rfl _ _ 61 rfl w.heap.size 9 i0 (.string ByteArray.empty) 1 Tryz.underlying61 hi hz0 hz1 _ _ _ l.length rfl rfl rfl ?b2 ?b3 (Nat.le_refl _) ?_)
  case b2=>rw [hz2];omega
  case b3=>unfold maxLen;omega
  intro w0 hown0 hgrow0
  have hB0:Below w.heap.size w w0:=(Below.refl _ _).grown hgrow0 (Nat.le_refl _) (fun k h=>by cases h)
  have HB0:=Lib.hid hB0
  have HO0:=Lib.hid hown0
  clear hown0 hgrow0 hB0
  go_wp2
  go_loopw [5,13] (fun v i wr=>∃ k:Nat,k≤l.length∧i=.int .i64 k∧wr.ownsRow w.heap.size 9 1 v k (strs (gat tx l k))∧Below w.heap.size w wr) (fun _ i _=>l.length - (intOf i).toNat)
  case atStart=>exact ⟨0,Nat.zero_le _,rfl,HO0.out,HB0.out⟩
  case round=>
   clear HO0 HB0
   obtain ⟨k,hk,rfl,hown,hB⟩:=hrel
   have HO:=Lib.hid hown
   clear hown
   by_cases hlt:k<l.length
   ·obtain ⟨a',c',e',hc⟩:=HV.out.on hB
    rcases hc with hc | ⟨b',off',ea,hc⟩
    ·rw [hc] at hlt;simp at hlt
    obtain ⟨⟨rfl,rfl⟩,rfl⟩:(b=b'∧off=off')∧cap=c':=by simpa [ea] using e'
    have ck:=hc k hlt
    obtain ⟨x,hx⟩:∃ x,x=l.getD k (0,false,0,0):=⟨_,rfl⟩
    have hmem:x∈l:=by rw [hx,List.getD_eq_getElem?_getD,List.getElem?_eq_getElem hlt];exact List.getElem_mem hlt
    rw [← hx] at ck
    obtain ⟨ck1,ck2,ck3,ck4⟩:=ck
    have HX:=Lib.hid hx
    have HM:=Lib.hid hmem
    clear hx hc ea e' hmem
    go_wp2_with fail
    refine (HG.out x HM.out _ (hB.alloc hB.size _)).mono ?_
    rintro e w1 ⟨rfl,hb⟩
    have hx0:Below wr.heap.size wr w1:=((Below.refl _ _).alloc (Nat.le_refl _) _).trans (hb.mono (by simp))
    clear hb
    have HX0:=Lib.hid hx0
    have HO1:=Lib.hid (own_below HO.out hx0)
    have sz:w.heap.size≤w1.heap.size:=by have:=hx0.size;have:=hB.size;omega
    clear hx0
    go_wp2_with (at_builtin;refine wpList_append_own _ rfl _ _ 61 rfl w.heap.size 9 i0 (.string ByteArray.empty) 1 16 Tryz.underlying61 hi hz0 hz1 hz2 rfl (by decide) _ _ _ rfl (HO1.out.alloc _) ⟨w1.heap.size,0,none⟩ 1 1 [.string (tb (tx x))] rfl rfl ?c1 ?c2 ?c3 ?c4 ?c5 ?_)
    case c1=>
     intro j u hj
     match j,hj with
     | 0,hj=>simp at hj;subst hj;simp [Addr.add]
    case c2=>intro u hu;simp at hu;subst hu;rfl
    case c3=>unfold maxLen;omega
    case c4=>omega
    case c5=>simp;omega
    intro v' w2 hown' hgrow _
    have R:=own_next hB.size hB HX0.out HO.out hown' hgrow
    have N1:=Lib.hid (gat_next tx l k (0,false,0,0) hlt)
    rw [← HX.out] at N1
    have R1:=Lib.hid R.1
    have R2:=Lib.hid R.2
    rw [← N1.out] at R1
    clear R hown' hgrow HO1 HO HX0 N1
    go_wp2
    go_roundw
    case rel=>exact ⟨k + 1,by omega,by go_num,R1.out,R2.out⟩
    case measure=>simp [intOf];omega
   ·have hkl:k=l.length:=by omega
    subst hkl
    have ZZ:=Lib.hid (And.intro (own_txs HO.out) (And.intro (own_nw HO.out) hB))
    rw [gat_whole] at ZZ
    obtain ⟨⟨a2,c2,rfl,_⟩,_⟩:=id ZZ.out
    clear HO
    go_wp2
    go_ret
    exact ⟨_,rfl,ZZ.out⟩
end Go.Proofs.YtcadomjkjoiakaaGreatDoor
namespace Go.Proofs.YtcadomjkjoiakaaGreatDoor
open Go.RowKit Cal Txt Ln Cb
def kC:Array Value:=#[.string ⟨#[78,65,77,69]⟩,.bool true,.bool false,.string ⟨#[84,69,88,84]⟩,.bool false,.bool false,.string ⟨#[83,84,65,82,84]⟩,.bool true,.bool false,.string ⟨#[76,69,78,71,84,72]⟩,.bool true,.bool false,.string ⟨#[82,85,76,69]⟩,.bool false,.bool false,.string ⟨#[77,79,82,69]⟩,.bool false,.bool true,.string ⟨#[78,79,84]⟩,.bool false,.bool true,.string ⟨#[77,79,86,69]⟩,.bool false,.bool true,.string ⟨#[65,76,65,82,77]⟩,.bool false,.bool true]
def KnW (W:World):Prop:=W.rangeAt 0 0 kC.toList
theorem KnW.lt {W:World} (h:KnW W):0<W.heap.size:=ecell_in (h 0 _ rfl)
theorem KnW.below {W W':World} (h:KnW W) (q:Below W.heap.size W W'):KnW W':=fun j v hv=>(q.cell (p:=⟨0,0 + j,none⟩) h.lt).trans (h j v hv)
theorem idxK (k:Nat) (h:k<9) (W:World):(Instr.index 84 (.agg kC) (.int .i64 k)).run Tryz.prog W=.ok (.agg #[.string (tb (ky k)),.bool (mu k),.bool (decide (5≤k))]) W:=by
 rcases nine h with rfl | rfl | rfl | rfl | rfl | rfl | rfl | rfl | rfl <;> kernel_rfl
theorem kn_load {ops:Array Oper} {rest:List Oper} {op:Oper} {a:Act} {w:World} {Q:Exit→Act→World→Prop} (hgd:op.guard=none) (x:Operand) (ho:op.op=.load 84 x)
 (hx:a.eval x=.pointer (some ⟨0,0,none⟩)) (hE:KnW w) (h:wpList Tryz.prog ops Q rest (a.put op.dst (.agg kC)) w):wpList Tryz.prog ops Q (op :: rest) a w:=
 wpList_load_mid hgd 84 x ho 0 0 hx kC.toList _ hE Tryz.underlying84 rfl (by kernel_rfl) h
set_option maxRecDepth 100000 in
set_option maxHeartbeats 4000000 in
theorem lacks_any (b:Nat) (nx:Nat) (w:World) (hK:KnW w) (hn:w.cell? ⟨b,17,none⟩=some (.int .i64 nx)) :
 Calls Tryz.prog 37 #[.pointer (some ⟨b,0,none⟩)] w fun e w'=>e=.returned (.bool (decide (nx≤3)))∧Below w.heap.size w w':=by
 have HN:=Lib.hid hn
 have hb:=ecell_in hn
 go_enter Tryz.func37,Tryz.ntmps37
 go_wp2_with (refine kn_load rfl _ rfl rfl hK ?_)
 clear hK hn
 go_loopw [6] (fun i wr=>∃ k:Nat,k≤9∧i=.int .i64 k∧(∀ j,j<k→nx≤j→mu j=false)∧Below w.heap.size w wr) (fun i _=>9 - (intOf i).toNat)
 case atStart=>exact ⟨0,Nat.zero_le _,rfl,fun j hj=>by omega,Below.refl _ _⟩
 case round=>
  obtain ⟨k,hk,rfl,hm,hB⟩:=hrel
  have HM:=Lib.hid hm
  clear hm
  by_cases hlt:k<9
  ·have ix:=idxK k hlt
   have hB1:=hB.alloc hB.size (.cells #[.string (tb (ky k)),.bool (mu k),.bool (decide (5≤k))] 83)
   have cn:(wr.alloc (.cells #[.string (tb (ky k)),.bool (mu k),.bool (decide (5≤k))] 83)).cell? ⟨b,17,none⟩=some (.int .i64 nx):=(hB1.cell (p:=⟨b,17,none⟩) hb).trans HN.out
   have HB1:=Lib.hid hB1
   have zb:b<wr.heap.size:=Nat.lt_of_lt_of_le hb hB.size
   have cn0:wr.cell? ⟨b,17,none⟩=some (.int .i64 nx):=(hB.cell (p:=⟨b,17,none⟩) hb).trans HN.out
   clear hB hB1
   rcases hc:decide ((nx:Int)≤(k:Int)) with _ | _
   ·have q:¬ nx≤k:=by have:=of_decide_eq_false hc;omega
    go_wp2
    go_roundw
    case rel=>exact ⟨k + 1,by omega,by go_num,fun j h1 h2=>HM.out j (by omega) h2,HB1.out⟩
    case measure=>simp [intOf];omega
   ·have q:nx≤k:=by have:=of_decide_eq_true hc;omega
    rcases hmu:mu k with _ | _
    ·rw [hmu] at ix cn HB1
     go_wp2
     go_roundw
     case rel=>exact ⟨k + 1,by omega,by go_num,fun j h1 h2=>by
      rcases Nat.lt_or_ge j k with z | z
      ·exact HM.out j z h2
      ·rw [show j=k by omega];exact hmu,HB1.out⟩
     case measure=>simp [intOf];omega
    ·rw [hmu] at ix cn HB1
     have z3:nx≤3:=by
      rcases nine hlt with rfl | rfl | rfl | rfl | rfl | rfl | rfl | rfl | rfl <;> first | omega | exact absurd hmu (by decide)
     go_wp2
     go_ret
     exact ⟨ret_bool (by rw [eq_comm];exact decide_eq_true z3),HB1.out⟩
  ·have hk9:k=9:=by omega
   subst hk9
   have z3:¬ nx≤3:=fun z=>absurd (HM.out 3 (by omega) z) (by decide)
   go_wp2
   go_ret
   exact ⟨ret_bool (by rw [eq_comm];exact decide_eq_false z3),hB⟩
def pcV (o:Option Nat):Value:=.tuple #[.int .i64 ((o.getD 0:Nat):Int),.bool o.isSome]
set_option maxRecDepth 100000 in
set_option maxHeartbeats 4000000 in
theorem place_any (b:Nat) (nx:Nat) (key:ByteArray) (w:World) (hK:KnW w) (hn:w.cell? ⟨b,17,none⟩=some (.int .i64 nx)) :
 Calls Tryz.prog 80 #[.pointer (some ⟨b,0,none⟩),.string key] w fun e w'=>e=.returned (pcV (plc nx key.data.toList))∧Below w.heap.size w w':=by
 have HN:=Lib.hid hn
 have hb:=ecell_in hn
 go_enter Tryz.func80,Tryz.ntmps80
 go_wp2_with (refine kn_load rfl _ rfl rfl hK ?_)
 clear hK hn
 go_loopw [9] (fun i wr=>∃ k:Nat,k≤9∧i=.int .i64 k∧plc nx key.data.toList=plcF (9 - k) k nx key.data.toList∧Below w.heap.size w wr) (fun i _=>9 - (intOf i).toNat)
 case atStart=>exact ⟨0,Nat.zero_le _,rfl,rfl,Below.refl _ _⟩
 case round=>
  obtain ⟨k,hk,rfl,hm,hB⟩:=hrel
  have HM:=Lib.hid hm
  clear hm
  by_cases hlt:k<9
  ·have ix:=idxK k hlt
   have hB1:=hB.alloc hB.size (.cells #[.string (tb (ky k)),.bool (mu k),.bool (decide (5≤k))] 83)
   have cn:(wr.alloc (.cells #[.string (tb (ky k)),.bool (mu k),.bool (decide (5≤k))] 83)).cell? ⟨b,17,none⟩=some (.int .i64 nx):=(hB1.cell (p:=⟨b,17,none⟩) hb).trans HN.out
   have HB1:=Lib.hid hB1
   have zb:b<wr.heap.size:=Nat.lt_of_lt_of_le hb hB.size
   have cn0:wr.cell? ⟨b,17,none⟩=some (.int .i64 nx):=(hB.cell (p:=⟨b,17,none⟩) hb).trans HN.out
   have PF:Hid (plcF (9 - k) k nx key.data.toList=if k<nx then plcF (9 - (k + 1)) (k + 1) nx key.data.toList else if ky k=key.data.toList then some k else if mu k=true then none else plcF (9 - (k + 1)) (k + 1) nx key.data.toList):=Lib.hid (by
    rw [show 9 - k=(9 - (k + 1)) + 1 by omega]
    rfl)
   clear hB hB1
   rcases hc:decide ((k:Int)<(nx:Int)) with _ | _
   ·have q:¬ k<nx:=by have:=of_decide_eq_false hc;omega
    rcases hky:((tb (ky k)).toList == key.toList) with _ | _
    ·have qk:¬ ky k=key.data.toList:=fun z=>by
      rw [ByteArray.toList_eq,ByteArray.toList_eq] at hky
      simp [tb,z] at hky
     rcases hmu:mu k with _ | _
     ·rw [hmu] at ix cn HB1
      go_wp2
      go_roundw
      case rel=>exact ⟨k + 1,by omega,by go_num,by rw [HM.out,PF.out,if_neg q,if_neg qk,hmu];rfl,HB1.out⟩
      case measure=>simp [intOf];omega
     ·rw [hmu] at ix cn HB1
      go_wp2
      go_ret2
      exact ⟨by rw [HM.out,PF.out,if_neg q,if_neg qk,hmu];rfl,HB1.out⟩
    ·have qk:Hid (ky k=key.data.toList):=Lib.hid (by
      rw [ByteArray.toList_eq,ByteArray.toList_eq] at hky
      simpa [tb] using hky)
     go_wp2
     go_ret2
     exact ⟨by rw [HM.out,PF.out,if_neg q,if_pos qk.out];rfl,HB1.out⟩
   ·have q:k<nx:=by have:=of_decide_eq_true hc;omega
    go_wp2
    go_roundw
    case rel=>exact ⟨k + 1,by omega,by go_num,by rw [HM.out,PF.out,if_pos q],HB1.out⟩
    case measure=>simp [intOf];omega
  ·have hk9:k=9:=by omega
   subst hk9
   go_wp2
   go_ret2
   exact ⟨by rw [HM.out];rfl,hB⟩
end Go.Proofs.YtcadomjkjoiakaaGreatDoor
