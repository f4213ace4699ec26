/-
  Texts of our own that serve the card of this claim, joined into one.
-/
import Derived.Test.YtcadomjkjoiakaaGreatDoorBJ
import Derived.Test.YtcadomjkjoiakaaGreatDoorBW
import Derived.Deep.RegionHeld3
import Derived.Deep.Cut
import Derived.Test.YtcadomjkjoiakaaGreatDoorQJ
namespace Go.Proofs.YtcadomjkjoiakaaGreatDoor
open Go.RowKit Go.Shelf Cal Txt
attribute [local go_sem] Oper.semAt_some
def stC (l:List Int) (d:Int):List Int × Bool:=(l++[d],true)
theorem run_coll:∀ (xs l:List Int),run stC l xs=(l++xs,true)
 | [],l=>by simp [run_nil]
 | d :: xs,l=>by
   rw [run_yes (show stC l d=(l++[d],true) from rfl),run_coll xs (l++[d])]
   simp
def CoI (lB n1 m:Nat) (l:List Int) (S:Nat→Prop) (W:World):Prop:=
 l.length≤m∧∃ v,(∀ b,S b↔(b=lB∨v.ownBlock=some b))∧Boxed W lB 25 v∧W.ownsRow n1 3 1 v l.length (nums l)
theorem CoI.frm {lB n1 n0 m:Nat} (h2:n0≤lB) (h3:n0≤n1):Frm n0 (CoI lB n1 m):=by
 refine ⟨fun l S W h b hb=>?_,fun l S W W' h q same=>?_⟩
 ·obtain ⟨_,v,e,c2,c3⟩:=h
  rcases (e b).1 hb with rfl | z
  ·exact ⟨h2,c2.lt⟩
  ·have:=c3.lt b z;exact ⟨by omega,this.2⟩
 ·obtain ⟨b0,v,e,c2,c3⟩:=h
  exact ⟨b0,v,e,bxd_same c2 (same _ ((e _).2 (Or.inl rfl))),own_same c3 (fun g hg=>same g ((e _).2 (Or.inr hg)))⟩
theorem co_step (m z:Nat) (l:List Int) (d:Int) (S:Nat→Prop) (X w1:World) (v:Value) (g' cap':Nat) (he:∀ b,S b↔(b=z∨v.ownBlock=some b)) (c2:Boxed X z 25 v) (c3:X.ownsRow (z + 1) 3 1 v l.length (nums l)) (hm:l.length + 1≤m)
 (hown:w1.ownsRow (z + 1) 3 1 (.slice (some ⟨g',0,none⟩) (l.length + 1) cap') (l.length + 1) (nums l++[.int .i64 d])) (hgrow:(X.alloc (.cells #[.int .i64 d] 3)).grownBy w1 v.ownBlock) (hat:(Value.slice (some ⟨g',0,none⟩) (l.length + 1) cap').ownBlock=v.ownBlock∨(Value.slice (some ⟨g',0,none⟩) (l.length + 1) cap').ownBlock=some (X.alloc (.cells #[.int .i64 d] 3)).heap.size) :
 Boxed w1 z 25 v∧∃ S',Gr S X S'∧Kps S X (w1.setCell ⟨z,0,none⟩ (.slice (some ⟨g',0,none⟩) (l.length + 1) cap'))∧CoI z (z + 1) m (l++[d]) S' (w1.setCell ⟨z,0,none⟩ (.slice (some ⟨g',0,none⟩) (l.length + 1) cap')):=by
 have n2:some z≠v.ownBlock:=fun e=>by have:=(c3.lt z e.symm).1;omega
 have k2:Boxed w1 z 25 v:=(c2.alloc _).kept hgrow n2
 have g1:z + 1≤g':=(hown.lt g' rfl).1
 refine ⟨k2,fun b=>b=z∨b=g',?_,?_,by simp;omega,_,fun b=>?_,k2.set _,?_⟩
 ·rintro b (rfl | rfl)
  ·exact Or.inl ((he _).2 (Or.inl rfl))
  ·rcases hat with q | q
   ·exact Or.inl ((he _).2 (Or.inr q.symm))
   ·refine Or.inr ?_
    have:b=X.heap.size + 1:=by simpa [Value.ownBlock] using q
    omega
 ·have kA:Kps S X (X.alloc (.cells #[.int .i64 d] 3)):=Kps.of_below ((Below.refl _ _).alloc (Nat.le_refl _) _)
  have kB:Kps (fun b=>v.ownBlock=some b) (X.alloc (.cells #[.int .i64 d] 3)) w1:=⟨hgrow.os,hgrow.tape,hgrow.output,hgrow.size,fun b hb hS=>hgrow.block b hb (fun e=>hS e.symm)⟩
  have kC:Kps (fun b=>b=z) w1 (w1.setCell ⟨z,0,none⟩ (.slice (some ⟨g',0,none⟩) (l.length + 1) cap')):=Kps.set _ rfl
  exact (kA.trans kB (fun b e=>Or.inl ((he b).2 (Or.inr e)))).trans kC (fun b e=>Or.inl ((he b).2 (Or.inl e)))
 ·show (b=z∨b=g')↔(b=z∨some g'=some b)
  simp [eq_comm]
 ·rw [List.length_append,nums_snoc]
  exact hown.kept (grownBy_setCell' w1 z _) (Or.inr (fun e=>by have:g'=z:=by simpa [Value.ownBlock] using e
                                                               omega))
set_option maxRecDepth 100000 in
set_option maxHeartbeats 4000000 in
theorem appendSeq_any (lb:Array Value) (xs:List Int) (n0:Nat) (w:World) (T:Nat→Prop) (hI:Itr Tryz.prog 268 lb xs n0 w T) (hn0:n0≤w.heap.size) (hT:∀ b,T b→b<w.heap.size∧n0≤b) (hx:xs.length≤200000) :
 Calls Tryz.prog 271 #[.slice none 0 0,.func (.func 268) #[] lb] w fun e w'=>∃ v,e=.returned v∧w'.ownsRow w.heap.size 3 1 v xs.length (nums xs)∧Below n0 w w':=by
 obtain ⟨i0,hi,hz0,hz1,hz2⟩:=info_parts info_per_int
 refine (callsIn_wide (n:=3)).1 ?_
 refine callsIn_of_wp_marks Tryz.func271 rfl trivial ?_ rfl
 simp only [Tryz.ntmps271,List.size_toArray,List.length_cons,List.length_nil,Nat.reduceAdd,Nat.reduceSub,Array.replicate_succ,Array.replicate_zero,List.push_toArray,List.append_toArray,List.nil_append,List.cons_append]
 obtain ⟨W,hW⟩:∃ W,W=w.alloc (.cells #[.slice none 0 0] 25):=⟨_,rfl⟩
 have hB:Below w.heap.size w W:=by rw [hW];exact (Below.refl _ _).alloc (Nat.le_refl _) _
 have hz:W.heap.size=w.heap.size + 1:=by rw [hW];simp
 have b2:Boxed W w.heap.size 25 (.slice none 0 0):=by rw [hW];exact Boxed.new _ _ _
 gi_wp2_with fail
 rw [← hW]
 clear hW
 have FI:Frm n0 (CoI w.heap.size (w.heap.size + 1) 200000):=CoI.frm (by omega) (by omega)
 refine rf_law2 (gf:=268) (lb:=lb) rfl (enters_of Tryz.func268 (by kernel_rfl) rfl) hI (hB.mono hn0) hn0 stC
  (CoI w.heap.size (w.heap.size + 1) 200000) (fun _ _ _ _=>False)
  FI (fun c=>⟨fun y S X h=>h.elim,fun y S X X' h q p=>h.elim⟩) [] (fun b=>b=w.heap.size) ⟨Nat.zero_le _,.slice none 0 0,fun b=>by simp [Value.ownBlock],b2,World.ownsRow_nil _ _ _ _⟩ ?hT rfl ?a1 ?assign ?body ?done ?stop
 case hT=>
  intro b hb
  obtain ⟨t1,t2⟩:=hT b hb
  exact ⟨t1,t2,by omega,hB.block b t1⟩
 case assign=>
  intro l' d X K hK
  gi_wp2
  exact hK
 case body=>
  clear b2 hI hT hB
  rintro l' l S d X ⟨hlen,v,he,c2,c3⟩ hnX ⟨ns,hE⟩
  have ll:l.length + 1≤200000:=by
   rw [run_coll,run_coll] at hE
   have e:=congrArg (fun z=>z.1.length) hE
   simp at e
   omega
  have HV:=Lib.hid he
  have HC2:=Lib.hid c2
  have HO:=Lib.hid c3
  have zX:w.heap.size + 1≤X.heap.size:=by have:=c2.lt;omega
  have k2:=c2.cell
  clear he c2 c3 hE
  gi_wp2_with (gi_at_builtin;refine append_at _ rfl _ _ 25 rfl (w.heap.size + 1) 3 i0 (.int .i64 0) 1 8 Tryz.underlying25 hi hz0 hz1 hz2 rfl (by decide) _ _ _ rfl (HO.out.alloc _) ⟨X.heap.size,0,none⟩ 1 1 [.int .i64 d] rfl rfl (cell_one_new _ _ _) (by simp [Value.oneCell']) (by unfold maxLen;omega) (by omega) (by simp;omega) ?_;intro v' w1 hown' hgrow hat;obtain ⟨g',cap',rfl⟩:=ownsRow_succ hown';have M1:=Lib.hid (co_step 200000 w.heap.size l d S X w1 v g' cap' HV.out HC2.out HO.out ll hown' hgrow hat);have hc1:=M1.out.1.cell;have hf1:=M1.out.1.frozen;clear hown' hgrow hat k2)
  obtain ⟨S',u1,u2,u3⟩:=M1.out.2
  exact ⟨_,S',rfl,u1,u2,u3⟩
 case done=>
  rintro D y S X hD hSD hrun ⟨_,v,he,c2,c3⟩ hg3 hk3 hDd
  have ZZ:=Lib.hid (show (X.putObj D (.deferred none)).ownsRow w.heap.size 3 1 v xs.length (nums xs)∧Below n0 w (X.putObj D (.deferred none)) from by
   have kD:Kps (fun b=>b=D) X (X.putObj D (.deferred none)):=Kps.put _ rfl
   have kW:Kps (fun b=>(b=w.heap.size)∨T b) w X:=(Kps.of_below hB).trans hk3 (Gr.refl _ _)
   have hBX:Below n0 w X:=kW.below (fun b hb=>hb.elim (fun z=>by omega) (fun z=>(hT b z).2)) hn0
   have hBD:Below n0 w (X.putObj D (.deferred none)):=hBX.trans (kD.below (fun b e=>by omega) (Nat.le_trans hn0 hBX.size))
   have q:=ownsRow_putObj c3 (.deferred none) hDd rfl
   rw [run_coll] at hrun
   have r':y=xs:=by have:=congrArg Prod.fst hrun;simpa using this.symm
   rw [r'] at q
   refine ⟨⟨q.1,q.2.imp id (fun ⟨g,cap,cur,h1,h2,h3⟩=>⟨g,cap,cur,h1,by omega,h3⟩)⟩,hBD⟩)
  have k2:=c2.cell
  clear hrun he hg3 hk3 b2 hI
  obtain ⟨av,cv,rfl⟩:∃ a c,v=.slice a y.length c:=by
   rcases c3.2 with ⟨q,q0⟩ | ⟨g,cap,_,q,_⟩
   ·exact ⟨none,0,by rw [q,q0]⟩
   ·exact ⟨_,_,q⟩
  clear c3 c2
  gi_wp2
  refine ⟨by simp,.inl ⟨_,_,rfl,run_takeDeferred hDd,?_⟩⟩
  exact ⟨.slice av y.length cv,by simp [results,Tryz.results271,go_sem],_,rfl,ZZ.out⟩
 case stop=>
  rintro D c y S X hD hSD hrun h
  exact h.elim
theorem collect_any (lb:Array Value) (xs:List Int) (n0:Nat) (w:World) (T:Nat→Prop) (hI:Itr Tryz.prog 268 lb xs n0 w T) (hn0:n0≤w.heap.size) (hT:∀ b,T b→b<w.heap.size∧n0≤b) (hx:xs.length≤200000) :
 Calls Tryz.prog 246 #[.func (.func 268) #[] lb] w fun e w'=>∃ v,e=.returned v∧w'.ownsRow w.heap.size 3 1 v xs.length (nums xs)∧Below n0 w w':=by
 have K:=Lib.hid (appendSeq_any lb xs n0 w T hI hn0 hT hx)
 clear hI hT hx hn0
 go_enter Tryz.func246,Tryz.ntmps246
 go_wp2_with fail
 refine K.out.mono ?_
 rintro e w1 ⟨v,rfl,ho,hb⟩
 have HO:=Lib.hid ho
 have HB:=Lib.hid hb
 clear ho hb K
 go_wp2
 go_ret
 exact ⟨v,rfl,HO.out,HB.out⟩
theorem rise_len2:∀ (l:List Int) (a b:Int),l.Pairwise (·<·)→(∀ x∈l,a≤x∧x≤b)→(l.length:Int)≤max 0 (b - a + 1)
 | [],a,b,_,_=>by simp;omega
 | x :: l,a,b,hp,hm=>by
   obtain ⟨h1,h2⟩:=List.pairwise_cons.1 hp
   have k:=rise_len2 l (x + 1) b h2 (fun y hy=>⟨by have:=h1 y hy;omega,(hm y (List.mem_cons_of_mem _ hy)).2⟩)
   have:=hm x (by simp)
   rw [List.length_cons]
   push_cast
   omega
theorem btL_len {r:Rl} {s:Int} (h:sf r s=0) (fr t:Int):(btL r s fr t).length≤200000:=by
 rw [btL_eq h]
 obtain ⟨_,s1,s2⟩:=sf_ok h
 have k:=rise_len2 (DAYS r s) s 109573 (DAYS_rise r s) (fun x hx=>⟨(DAYS_in h hx).1,(DAYS_in h hx).2.1⟩)
 have:=List.length_filter_le (fun x=>decide (fr≤x∧x≤t)) (DAYS r s)
 omega
set_option maxRecDepth 100000 in
set_option maxHeartbeats 4000000 in
theorem seqAll_any (r:Rl) (v:Value) (s fr t:Int) (w:World) (hv:RuleIn w v r) (hT:Tab w) (h0:sf r s=0) (hfr:fr≤9223372036854775807) :
 Calls Tryz.prog 220 #[v,.int .i64 s,.int .i64 fr,.int .i64 t] w fun e w'=>∃ u,e=.returned (.tuple #[u,.nilIface])∧w'.ownsRow w.heap.size 3 1 u (btL r s fr t).length (nums (btL r s fr t))∧Below w.heap.size w w':=by
 obtain ⟨am,ad,aw,ap,cm,cd,cw,cp,rfl⟩:=hv.form
 have hB:Below w.heap.size w (w.alloc (.cells #[.int .i64 r.freq,.int .i64 r.every,.int .i64 r.count,.int .i64 r.till,.slice am r.months.length cm,.slice ad r.days.length cd,.slice aw r.weeks.length cw,.slice ap r.pick.length cp] 28)):=(Below.refl _ _).alloc (Nat.le_refl _) _
 have KB:=Lib.hid (between_any r _ s fr t (w.alloc (.cells #[.int .i64 r.freq,.int .i64 r.every,.int .i64 r.count,.int .i64 r.till,.slice am r.months.length cm,.slice ad r.days.length cd,.slice aw r.weeks.length cw,.slice ap r.pick.length cp] 28)) (hv.on hB) (hT.below hB) (Or.inr hfr))
 have HB:=Lib.hid hB
 have H0:=Lib.hid h0
 have HL:=Lib.hid (btL_len h0 fr t)
 clear hv hT hB hfr h0
 go_enter Tryz.func220,Tryz.ntmps220
 go_wp2_with fail
 generalize w.alloc (.cells #[.int .i64 r.freq,.int .i64 r.every,.int .i64 r.count,.int .i64 r.till,.slice am r.months.length cm,.slice ad r.days.length cd,.slice aw r.weeks.length cw,.slice ap r.pick.length cp] 28)=W at HB KB ⊢
 refine KB.out.mono ?_
 rintro e w1 ⟨hb,hc⟩
 clear KB
 rcases hc with ⟨k1,_⟩ | ⟨_,k2,lb,rfl,hI⟩
 ·exact absurd H0.out k1
 have KC:=Lib.hid (collect_any lb _ _ w1 _ hI (by omega) (fun b q=>⟨by omega,q.1⟩) HL.out)
 have B1:=Lib.hid (HB.out.trans (hb.mono HB.out.size))
 have sz:=Lib.hid HB.out.size
 have s1:=Lib.hid B1.out.size
 clear hI hb k2 HB
 go_wp2_with fail
 refine KC.out.mono ?_
 rintro e w2 ⟨u,rfl,ho,hb⟩
 have HO:Hid (w2.ownsRow w.heap.size 3 1 u (btL r s fr t).length (nums (btL r s fr t))):=Lib.hid ⟨ho.1,ho.2.imp id (fun ⟨g,cap,cur,h1,h2,h3⟩=>⟨g,cap,cur,h1,Nat.le_trans s1.out h2,h3⟩)⟩
 have B2:=Lib.hid (B1.out.trans (hb.mono sz.out))
 clear ho hb KC B1
 go_wp2
 go_ret2
 exact ⟨u,rfl,HO.out,B2.out⟩
end Go.Proofs.YtcadomjkjoiakaaGreatDoor
namespace Go.Proofs.YtcadomjkjoiakaaGreatDoor
open Go.RowKit Cal Txt
def dyo (t:Int):Int:=if ist t=true then t / 1440 + 1 else 0
theorem dayOf_any (t:Int) (w:World) :
 Calls Tryz.prog 219 #[.int .i64 t] w fun e w'=>e=.returned (.int .i64 (dyo t))∧w'=w:=by
 by_cases h:1≤t∧t≤157785119
 ·have N:Hid (dyo t=t / 1440 + 1):=Lib.hid (if_pos (ist_yes h.1 h.2))
  go_enter Tryz.func219,Tryz.ntmps219
  go_wp2_with (go_at_call 120;refine (split_yes _ _ h.1 h.2).mono ?_;rintro e w' ⟨rfl,rfl⟩)
  go_ret
  exact ⟨ret_int N.out.symm,rfl⟩
 ·have N:Hid (dyo t=0):=Lib.hid (if_neg (by rw [ist_no h];decide))
  go_enter Tryz.func219,Tryz.ntmps219
  go_wp2_with (go_at_call 120;refine (split_no _ _ h).mono ?_;rintro e w' ⟨rfl,rfl⟩)
  go_ret
  exact ⟨ret_int N.out.symm,rfl⟩
theorem own_set {w:World} {n0 g cap n:Nat} {xs:List Value} (h:w.ownsRow n0 3 1 (.slice (some ⟨g,0,none⟩) n cap) n xs) (i:Nat) (x:Value) :
 (w.setCell ⟨g,i,none⟩ x).ownsRow n0 3 1 (.slice (some ⟨g,0,none⟩) n cap) n (xs.set i x):=by
 obtain ⟨h1,h2⟩:=h
 refine ⟨by rw [List.length_set];exact h1,?_⟩
 rcases h2 with ⟨q,_⟩ | ⟨g',cap',cur,q,hb,hg,hc,hm,hs,ht⟩
 ·cases q
 ·obtain ⟨rfl,rfl⟩:g=g'∧cap=cap':=by simpa using q
  refine Or.inr ⟨g,cap,cur.setIfInBounds i x,rfl,hb,?_,hc,hm,by simpa using hs,?_⟩
  ·rw [Sort.setCell_eq]
   simp only [Sort.mapBlock,Array.getElem?_modify,if_true,hg]
   rfl
  ·rw [Array.toList_setIfInBounds,List.take_set,ht]
def tmd (st n:Int):Int:=st + (n - dyo st) * 1440
def trn (st:Int) (k:Nat) (l:List Int):List Int:=(l.take k).map (tmd st)++l.drop k
theorem trn_zero (st:Int) (l:List Int):trn st 0 l=l:=by simp [trn]
theorem trn_end (st:Int) (l:List Int):trn st l.length l=l.map (tmd st):=by simp [trn]
theorem trn_len (st:Int) (k:Nat) (l:List Int) (h:k≤l.length):(trn st k l).length=l.length:=by simp [trn];omega
theorem trn_at (st:Int) (k:Nat) (l:List Int) (h:k<l.length):(trn st k l).getD k 0=l.getD k 0:=by
 unfold trn
 rw [List.getD_eq_getElem?_getD,List.getElem?_append_right (by simp;omega),List.getElem?_drop,List.getD_eq_getElem?_getD]
 congr 2
 simp;omega
theorem trn_set (st:Int) (k:Nat) (l:List Int) (h:k<l.length):nums (trn st (k + 1) l)=(nums (trn st k l)).set k (.int .i64 (tmd st (l.getD k 0))):=by
 unfold nums trn
 rw [← List.map_set]
 congr 1
 rw [List.take_succ_eq_append_getElem h,List.map_append,List.set_append_right _ _ (by simp;omega),List.getD_eq_getElem?_getD,List.getElem?_eq_getElem h,List.drop_eq_getElem_cons h]
 simp [Nat.min_eq_left (Nat.le_of_lt h)]
 rw [List.drop_eq_getElem_cons h,List.set_cons_zero]
theorem dyo_in (t:Int):0≤dyo t∧dyo t≤109573:=by
 unfold dyo ist
 split
 ·rename_i h
  have:=of_decide_eq_true h
  omega
 ·omega
theorem dyo_ok {t:Int} (h:ist t=true):dyo t=t / 1440 + 1∧1≤dyo t∧dyo t≤109573:=by
 have e:dyo t=t / 1440 + 1:=if_pos h
 have:=of_decide_eq_true h
 rw [e]
 exact ⟨rfl,by omega,by omega⟩
theorem sf_ev {r:Rl} {t:Int} (h0:rf r=0) (h:ist t=true):sf r (dyo t)=0:=by
 unfold sf
 rw [if_pos h0,if_pos (dyo_ok h).2]
def dyL (e:Evt) (fr t:Int):List Int:=btL e.rule (dyo e.start) (dyo fr) (dyo t)
theorem dyL_in {e:Evt} {fr t x:Int} (h0:rf e.rule=0) (h:ist e.start=true) (hx:x∈dyL e fr t):1≤x∧x≤109573:=by
 unfold dyL at hx
 rw [btL_eq (sf_ev h0 h)] at hx
 have:=DAYS_in (sf_ev h0 h) (List.mem_filter.1 hx).1
 have:=(dyo_ok h).2
 omega
set_option maxRecDepth 100000 in
set_option maxHeartbeats 4000000 in
theorem ofStart_rep (e:Evt) (s:Evs) (fr t:Int) (w:World) (hv:EvB w e s) (hT:Tab w) (hr:e.rep=true) (h0:rf e.rule=0) (hs:ist e.start=true) :
 Calls Tryz.prog 177 #[.agg (ecells e s),.int .i64 fr,.int .i64 t] w (OfA w.heap.size w ((dyL e fr t).map (tmd e.start))):=by
 obtain ⟨RES,hRES⟩:∃ RES,RES=(dyL e fr t).map (tmd e.start):=⟨_,rfl⟩
 rw [← hRES]
 have HRES:=Lib.hid hRES
 clear hRES
 have B0:=(Below.refl w.heap.size w).alloc (Nat.le_refl _) (.cells (ecells e s) 32)
 have R0:=EBox.new w e s 32
 have HI:=Lib.hid (fun x (q:x∈dyL e fr t)=>dyL_in h0 hs q)
 have HL:Hid ((dyL e fr t).length≤200000):=Lib.hid (btL_len (sf_ev h0 hs) _ _)
 have KA:=Lib.hid (fun X (q:Below w.heap.size w X)=>seqAll_any e.rule (rval e s) (dyo e.start) (dyo fr) (dyo t) X ((hv.on q).rule) (hT.below q) (sf_ev h0 hs) (by have:=(dyo_in fr).2;omega))
 have ET:Hid (∀ n,tmd e.start n=e.start + (n - dyo e.start) * 1440):=Lib.hid (fun _=>rfl)
 have hst:=of_decide_eq_true hs
 have hdy:=(dyo_ok hs).2
 have HB0:=Lib.hid B0
 have HR0:=Lib.hid R0
 clear hv hT h0 hs B0 R0
 have sz0:(w.alloc (.cells (ecells e s) 32)).heap.size=w.heap.size + 1:=World.size_alloc _ _
 have ca4:=HR0.out.1.2.2.2.2
 have ca2:=HR0.out.1.2.2.1
 rw [hr] at ca4
 obtain ⟨W0,hW⟩:∃ W0,W0=w.alloc (.cells (ecells e s) 32):=⟨_,rfl⟩
 rw [← hW] at HB0 HR0 sz0 ca4 ca2
 have HW:=Lib.hid hW
 clear hW
 go_enter Tryz.func177,Tryz.ntmps177
 go_upto_region 1 with fail
 rw [← HW.out]
 clear HW
 go_wp2_with (go_at_call 219;refine (dayOf_any _ _).mono ?_;rintro x w' ⟨rfl,hw⟩;replace hw:=hw.symm;subst hw)
 have HS:Hid (∀ X,Below W0.heap.size W0 X→X.cell? ⟨w.heap.size,5,none⟩=some (.int .i64 e.rule.freq)∧X.cell? ⟨w.heap.size,6,none⟩=some (.int .i64 e.rule.every)∧X.cell? ⟨w.heap.size,7,none⟩=some (.int .i64 e.rule.count)∧X.cell? ⟨w.heap.size,8,none⟩=some (.int .i64 e.rule.till)∧X.cell? ⟨w.heap.size,9,none⟩=some s.vm∧X.cell? ⟨w.heap.size,10,none⟩=some s.vd∧X.cell? ⟨w.heap.size,11,none⟩=some s.vw∧X.cell? ⟨w.heap.size,12,none⟩=some s.vp):=Lib.hid (fun X q=>(HR0.out.on q).2.1)
 have KB:=Lib.hid (fun X (q:Below W0.heap.size W0 X)=>KA.out X (HB0.out.trans (q.mono HB0.out.size)))
 clear KA ca4
 go_region_held3 (fun X=>X.cell? ⟨w.heap.size,5,none⟩=some (.int .i64 e.rule.freq)∧X.cell? ⟨w.heap.size,6,none⟩=some (.int .i64 e.rule.every)∧X.cell? ⟨w.heap.size,7,none⟩=some (.int .i64 e.rule.count)∧X.cell? ⟨w.heap.size,8,none⟩=some (.int .i64 e.rule.till)∧X.cell? ⟨w.heap.size,9,none⟩=some s.vm∧X.cell? ⟨w.heap.size,10,none⟩=some s.vd∧X.cell? ⟨w.heap.size,11,none⟩=some s.vw∧X.cell? ⟨w.heap.size,12,none⟩=some s.vp)
  (first | exact HS.out _ (Below.refl _ _).drew | exact HS.out _ (Below.trans (Below.drew (Below.refl _ W0)) hb3)) (first
  | (go_at_call 219;refine (dayOf_any _ _).mono ?_;rintro x w2 ⟨rfl,rfl⟩)
  | (go_at_call 220;refine (KB.out _ (Below.refl _ W0).drew).mono ?_;rintro x w3 ⟨u,rfl,ho3,hb3⟩))
 have h4:Below W0.heap.size W0 w3:=Below.trans (Below.drew (Below.refl _ W0)) hb3
 have B3:=Lib.hid (HB0.out.trans (h4.mono HB0.out.size))
 have R3:=Lib.hid (HR0.out.on h4)
 have O3:Hid (w3.ownsRow (w.heap.size + 1) 3 1 u (dyL e fr t).length (nums (dyL e fr t))):=Lib.hid (by rw [← sz0];exact ho3)
 clear ho3 hb3 h4 HS KB HB0 HR0 ca2 sz0
 generalize dyL e fr t=ds at O3 HI HL HRES
 rcases own_hol O3.out with ⟨eu,hnil⟩ | ⟨g,cap,eu,hg,hcap,hmax,_⟩
 ·subst eu
  have HN:=Lib.hid hnil
  clear O3 hnil HI HL
  go_wp2_with fail
  go_loop [38] (fun i=>i=.int .i64 0) (fun _=>0)
  case atStart=>rfl
  case round=>
   subst hrel
   go_wp2
   go_ret2
   exact ⟨.slice none 0 0,rfl,by rw [HRES.out,HN.out];exact World.ownsRow_nil _ _ _ _,B3.out⟩
 ·subst eu
  have dl:ds.length≤200000:=HL.out
  have HG:=Lib.hid hg
  obtain ⟨st,hst'⟩:∃ st,st=e.start:=⟨_,rfl⟩
  obtain ⟨f0,hf0⟩:∃ f0,f0=dyo e.start:=⟨_,rfl⟩
  have c2:=Lib.hid (fun X (q:Below (w.heap.size + 1) w3 X)=>(q.cell (p:=⟨w.heap.size,2,none⟩) (by show w.heap.size<_;omega)).trans R3.out.1.2.2.1)
  rw [← hf0] at hdy ET
  rw [← hst'] at hst ET c2 HRES
  rw [← hf0,← hst']
  have HST:=Lib.hid hst'
  have sw:=R3.out.lt
  clear hst' hf0 hg HL R3 hcap hmax hr
  go_wp2_with fail
  go_loopw [38] (fun i wr=>∃ k:Nat,k≤ds.length∧i=.int .i64 k∧wr.ownsRow (w.heap.size + 1) 3 1 (.slice (some ⟨g,0,none⟩) ds.length cap) ds.length (nums (trn st k ds))∧Below (w.heap.size + 1) w3 wr) (fun i _=>ds.length - (intOf i).toNat)
  case atStart=>exact ⟨0,Nat.zero_le _,rfl,by rw [trn_zero];exact O3.out,Below.refl _ _⟩
  case round=>
   obtain ⟨k,hk,rfl,hO,hB⟩:=hrel
   have HO:=Lib.hid hO
   have HB:=Lib.hid hB
   have c2':=c2.out _ hB
   clear hO hB O3
   by_cases hlt:k<ds.length
   ·have hz:(trn st k ds).length=ds.length:=trn_len st k ds hk
    have ck:wr.cell? ⟨g,k,none⟩=some (.int .i64 (ds.getD k 0))∧wr.frozen? ⟨g,k,none⟩=false:=by
     have hO2:=HO.out
     rw [← hz] at hO2
     rcases own_hol hO2 with ⟨q,_⟩ | ⟨g',cap',q,_,_,_,hh⟩
     ·cases q
     ·obtain ⟨rfl,_⟩:g=g'∧cap=cap':=by simpa using q
      have:=hh k (by omega)
      rwa [trn_at st k ds hlt,Nat.zero_add] at this
    obtain ⟨ck,fk⟩:=ck
    have hin:=HI.out (ds.getD k 0) (by rw [List.getD_eq_getElem?_getD,List.getElem?_eq_getElem hlt];exact List.getElem_mem hlt)
    have NS:=Lib.hid (own_set HO.out k (.int .i64 (tmd st (ds.getD k 0))))
    rw [← trn_set st k ds hlt,ET.out] at NS
    generalize ds.getD k 0=x at ck hin NS
    have NB:=Lib.hid (HB.out.trans ((Below.refl (w.heap.size + 1) wr).setCell (p:=⟨g,k,none⟩) HG.out (.int .i64 (st + (x - f0) * 1440))))
    obtain ⟨x1,x2⟩:=hin
    obtain ⟨s1,s2⟩:=hst
    obtain ⟨d1,d2⟩:=hdy
    clear hz HO HB
    go_wp2
    go_roundw
    case rel=>exact ⟨k + 1,by omega,by go_num,NS.out,NB.out⟩
    case measure=>simp [intOf];omega
   ·obtain rfl:k=ds.length:=by omega
    have ZZ:=Lib.hid (show OfA w.heap.size w RES (.returned (.tuple #[.slice (some ⟨g,0,none⟩) ds.length cap,.nilIface])) wr from ⟨_,rfl,by
     have:=HO.out
     rw [trn_end] at this
     rw [HRES.out,List.length_map]
     exact ⟨this.1,this.2.imp id (fun ⟨g,cap,cur,h1,h2,h3⟩=>⟨g,cap,cur,h1,by omega,h3⟩)⟩,B3.out.trans (HB.out.mono (by omega))⟩)
    clear HO HB
    go_wp2
    go_ret2
    exact ZZ.out
end Go.Proofs.YtcadomjkjoiakaaGreatDoor
namespace Go.Proofs.YtcadomjkjoiakaaGreatDoor
open Go.RowKit Cal Txt
def stL (e:Evt) (fr t:Int):List Int:=if e.rep=true then (dyL e fr t).map (tmd e.start) else [e.start]
theorem stL_len {e:Evt} {fr t:Int} (h:evF e=0):(stL e fr t).length≤200000:=by
 unfold stL
 split
 ·rename_i hr
  rw [List.length_map]
  have h2:=(evF_lens h).2.1
  unfold ruF at h2
  rw [if_pos hr] at h2
  exact btL_len (sf_ev h2 (evF_lens h).2.2.1) _ _
 ·simp
theorem ofStart_any (e:Evt) (s:Evs) (fr t:Int) (w:World) (hv:EvB w e s) (hT:Tab w) (h:evF e=0) :
 Calls Tryz.prog 177 #[.agg (ecells e s),.int .i64 fr,.int .i64 t] w (OfA w.heap.size w (stL e fr t)):=by
 unfold stL
 rcases hr:e.rep with _ | _
 ·rw [if_neg (by decide)]
  exact ofStart_once e s fr t w hr
 ·rw [if_pos rfl]
  have h2:=(evF_lens h).2.1
  unfold ruF at h2
  rw [if_pos hr] at h2
  exact ofStart_rep e s fr t w hv hT hr h2 (evF_lens h).2.2.1
def isS (e:Evt) (x:Int):Prop:=if e.rep=true then ∃ n,n∈DAYS e.rule (dyo e.start)∧x=tmd e.start n else x=e.start
theorem stL_mem {e:Evt} {fr t x:Int} (h:evF e=0) (hf:ist fr=true) (ht:ist t=true) (h1:fr≤x) (h2:x≤t):x∈stL e fr t↔isS e x:=by
 unfold stL isS
 split
 ·rename_i hr
  have hs:=(evF_lens h).2.2.1
  have h3:=(evF_lens h).2.1
  unfold ruF at h3
  rw [if_pos hr] at h3
  have s0:=sf_ev h3 hs
  unfold dyL
  rw [btL_eq s0,List.mem_map]
  constructor
  ·rintro ⟨n,hn,rfl⟩
   exact ⟨n,(List.mem_filter.1 hn).1,rfl⟩
  ·rintro ⟨n,hn,rfl⟩
   refine ⟨n,List.mem_filter.2 ⟨hn,?_⟩,rfl⟩
   have e1:=(dyo_ok hs).1
   have e2:=(dyo_ok hf).1
   have e3:=(dyo_ok ht).1
   unfold tmd at h1 h2
   rw [e1] at h1 h2
   rw [e2,e3]
   simp only [decide_eq_true_eq]
   omega
 ·simp
end Go.Proofs.YtcadomjkjoiakaaGreatDoor
namespace Go.Proofs.YtcadomjkjoiakaaGreatDoor
open Go.RowKit Cal Txt
theorem isIts_any (x:Int) (c:Int × Int) (b:Nat) (w:World) (hb:w.cell? ⟨b,0,none⟩=some (.int .i64 x)) :
 Calls Tryz.prog 183 #[.agg #[.int .i64 c.1,.int .i64 c.2],.pointer (some ⟨b,0,none⟩)] w fun e w'=>e=.returned (.bool (c.1 == x))∧Below w.heap.size w w':=by
 have B0:=(Below.refl w.heap.size w).alloc (Nat.le_refl _) (.cells #[.int .i64 c.1,.int .i64 c.2] 97)
 have HB:=Lib.hid B0
 have c0:(w.alloc (.cells #[.int .i64 c.1,.int .i64 c.2] 97)).cell? ⟨b,0,none⟩=some (.int .i64 x):=(B0.cell (p:=⟨b,0,none⟩) (ecell_in hb)).trans hb
 have bl:=ecell_in hb
 clear B0 hb
 go_enter Tryz.func183,Tryz.ntmps183
 go_wp2
 go_ret
 exact ⟨rfl,HB.out⟩
def IxcA (x:Int) (l:List (Int × Int)) (e:Ending):Prop:=
 (e=.returned (.int .i64 (-1))∧∀ i,i<l.length→¬ (l.getD i (0,0)).1=x)∨∃ k:Nat,e=.returned (.int .i64 k)∧k<l.length∧(l.getD k (0,0)).1=x∧∀ i,i<k→¬ (l.getD i (0,0)).1=x
set_option maxRecDepth 100000 in
set_option maxHeartbeats 1000000 in
theorem idxc_any (x:Int) (b:Nat) (v:Value) (l:List (Int × Int)) (w:World) (hv:Nths w v l) (hb:w.cell? ⟨b,0,none⟩=some (.int .i64 x)) (hl:l.length≤1000000) :
 Calls Tryz.prog 184 #[v,.func (.func 183) #[] #[.pointer (some ⟨b,0,none⟩)]] w fun e w'=>IxcA x l e∧Below w.heap.size w w':=by
 have HV:=Lib.hid hv
 have HC:=Lib.hid hb
 obtain ⟨a,cap,rfl,hc⟩:=hv
 clear hb hc
 have eg:∀ args w,(callFunc 183 args).run Tryz.prog w=.ok (.enter 183 args) w:=enters_of Tryz.func183 (by kernel_rfl) rfl
 go_enter Tryz.func184,Tryz.ntmps184
 go_wp2
 go_loopw [8] (fun i wr=>∃ k:Nat,k≤l.length∧i=.int .i64 k∧(∀ i,i<k→¬ (l.getD i (0,0)).1=x)∧Below w.heap.size w wr) (fun i _=>l.length - (intOf i).toNat)
 case atStart=>exact ⟨0,Nat.zero_le _,rfl,fun i hi=>absurd hi (Nat.not_lt_zero _),Below.refl _ _⟩
 case round=>
  obtain ⟨k,hk,rfl,hF,hB⟩:=hrel
  have HF:=Lib.hid hF
  have HB:=Lib.hid hB
  clear hF
  by_cases hlt:k<l.length
  ·obtain ⟨a',c',e',hc⟩:=HV.out.on hB
   obtain ⟨rfl,rfl⟩:a=a'∧cap=c':=by simpa using e'
   rcases hc with hc | ⟨g,off,rfl,hc⟩
   ·rw [hc] at hlt;simp at hlt
   obtain ⟨k1,k2⟩:=hc k hlt
   have KG:=Lib.hid (isIts_any x (l.getD k (0,0)) b wr ((hB.cell (p:=⟨b,0,none⟩) (ecell_in HC.out)).trans HC.out))
   obtain ⟨X,hX⟩:∃ X,X=l.getD k (0,0):=⟨_,rfl⟩
   rw [← hX] at k1 k2 KG
   have HX:=Lib.hid hX
   clear hX hc e' hB
   go_wp2_with fail
   refine KG.out.mono ?_
   rintro e w2 ⟨rfl,hb⟩
   have HB2:=Lib.hid (HB.out.trans (hb.mono HB.out.size))
   clear hb KG
   rcases hp:(X.1 == x) with _ | _
   ·have N1:Hid (∀ i,i<k + 1→¬ (l.getD i (0,0)).1=x):=Lib.hid (fun i hi=>by
     rcases Nat.lt_or_ge i k with q | q
     ·exact HF.out i q
     ·rw [show i=k by omega,← HX.out];simpa using hp)
    go_wp2
    go_roundw
    case rel=>exact ⟨k + 1,by omega,by go_num,N1.out,HB2.out⟩
    case measure=>simp [intOf];omega
   ·have N1:Hid ((l.getD k (0,0)).1=x):=Lib.hid (by rw [← HX.out];simpa using hp)
    go_wp2
    go_ret
    exact ⟨Or.inr ⟨k,rfl,hlt,N1.out,HF.out⟩,HB2.out⟩
  ·go_wp2
   go_ret
   exact ⟨Or.inl ⟨rfl,fun i hi=>HF.out i (by omega)⟩,HB.out⟩
def chOf (l:List (Int × Int)) (x:Int):Option Int:=(l.find? (fun c=>c.1 == x)).map (·.2)
theorem chOf_none:∀ {l:List (Int × Int)} {x:Int},(∀ i,i<l.length→¬ (l.getD i (0,0)).1=x)→chOf l x=none
 | [],_,_=>rfl
 | c :: l,x,h=>by
   have h0:¬ c.1=x:=h 0 (by simp)
   unfold chOf
   rw [List.find?_cons_of_neg (by simpa using h0)]
   exact chOf_none (fun i hi=>h (i + 1) (by simpa using hi))
theorem chOf_some:∀ {l:List (Int × Int)} {x:Int} {k:Nat},k<l.length→(l.getD k (0,0)).1=x→(∀ i,i<k→¬ (l.getD i (0,0)).1=x)→chOf l x=some (l.getD k (0,0)).2
 | [],_,_,hk,_,_=>by simp at hk
 | c :: l,x,0,_,h,_=>by
   unfold chOf
   rw [List.find?_cons_of_pos (by simpa using h)]
   rfl
 | c :: l,x,k + 1,hk,h,f=>by
   have h0:¬ c.1=x:=f 0 (by omega)
   have ih:=chOf_some (l:=l) (x:=x) (k:=k) (by simpa using hk) h (fun i hi=>f (i + 1) (by omega))
   unfold chOf at ih ⊢
   rw [List.find?_cons_of_neg (by simpa using h0)]
   exact ih
def chA (l:List (Int × Int)) (x:Int):Int:=match chOf l x with | some _=>x | none=>0
def chT (l:List (Int × Int)) (x:Int):Int:=(chOf l x).getD 0
set_option maxRecDepth 100000 in
set_option maxHeartbeats 2000000 in
theorem changeOf_any (e:Evt) (s:Evs) (x:Int) (w:World) (hv:Nths w s.vc e.chg) (hl:e.chg.length≤1000000) :
 Calls Tryz.prog 123 #[.agg (ecells e s),.int .i64 x] w fun y w'=>y=.returned (.tuple #[.agg #[.int .i64 (chA e.chg x),.int .i64 (chT e.chg x)],.bool (chOf e.chg x).isSome])∧Below w.heap.size w w':=by
 have B0:=(Below.refl w.heap.size w).alloc (Nat.le_refl _) (.cells (ecells e s) 32)
 have B1:=B0.alloc B0.size (.cells #[.int .i64 x] 3)
 have B2:=B1.alloc B1.size (.cells #[.int .i64 0,.int .i64 0] 97)
 have R0:=((EBox.new w e s 32).on ((Below.refl _ _).alloc (Nat.le_refl _) (.cells #[.int .i64 x] 3))).on ((Below.refl _ _).alloc (Nat.le_refl _) (.cells #[.int .i64 0,.int .i64 0] 97))
 obtain ⟨W1,hW1⟩:∃ W1,W1=w.alloc (.cells (ecells e s) 32):=⟨_,rfl⟩
 have z1:W1.heap.size=w.heap.size + 1:=by rw [hW1,World.size_alloc]
 rw [← hW1] at B0 B1 B2 R0
 have C0:((W1.alloc (.cells #[.int .i64 x] 3)).alloc (.cells #[.int .i64 0,.int .i64 0] 97)).cell? ⟨w.heap.size + 1,0,none⟩=some (.int .i64 x):=by rw [← z1];simp
 have T0:((W1.alloc (.cells #[.int .i64 x] 3)).alloc (.cells #[.int .i64 0,.int .i64 0] 97)).cell? ⟨w.heap.size + 1 + 1,0,none⟩=some (.int .i64 0):=by rw [← z1];simp
 have T1:((W1.alloc (.cells #[.int .i64 x] 3)).alloc (.cells #[.int .i64 0,.int .i64 0] 97)).cell? ⟨w.heap.size + 1 + 1,1,none⟩=some (.int .i64 0):=by rw [← z1];simp
 have Z0:((W1.alloc (.cells #[.int .i64 x] 3)).alloc (.cells #[.int .i64 0,.int .i64 0] 97)).frozen? ⟨w.heap.size + 1 + 1,0,none⟩=false:=by rw [← z1];simp
 have Z1:((W1.alloc (.cells #[.int .i64 x] 3)).alloc (.cells #[.int .i64 0,.int .i64 0] 97)).frozen? ⟨w.heap.size + 1 + 1,1,none⟩=false:=by rw [← z1];simp
 obtain ⟨W0,hW⟩:∃ W0,W0=(W1.alloc (.cells #[.int .i64 x] 3)).alloc (.cells #[.int .i64 0,.int .i64 0] 97):=⟨_,rfl⟩
 rw [← hW] at B2 R0 C0 T0 T1 Z0 Z1
 rw [hW1] at hW
 have HW:=Lib.hid hW
 have HV:=Lib.hid (hv.on B2)
 have KI:=Lib.hid (idxc_any x (w.heap.size + 1) s.vc e.chg W0 HV.out C0 hl)
 have CN:=Lib.hid (@chOf_none e.chg x)
 have CS:=Lib.hid (fun k=>@chOf_some e.chg x k)
 have EA:Hid (chA e.chg x=match chOf e.chg x with | some _=>x | none=>0):=Lib.hid rfl
 have ET:Hid (chT e.chg x=(chOf e.chg x).getD 0):=Lib.hid rfl
 generalize chA e.chg x=CA at EA ⊢
 generalize chT e.chg x=CT at ET ⊢
 generalize chOf e.chg x=C at EA ET CN CS ⊢
 have HB:=Lib.hid B2
 have HR:=Lib.hid R0
 have HK:=Lib.hid (And.intro T0 (And.intro T1 (And.intro Z0 Z1)))
 have c15:=R0.2.2.2.2.1
 have rl:=R0.lt
 clear hv B0 B1 B2 R0 C0 T0 T1 Z0 Z1 hW hW1 z1 hl W1
 go_enter Tryz.func123,Tryz.ntmps123
 go_upto_region 1 with fail
 rw [← HW.out]
 clear HW
 go_wp2_with fail
 refine KI.out.mono ?_
 rintro y w3 ⟨hi,hb⟩
 have B3:=Lib.hid (HB.out.trans (hb.mono HB.out.size))
 have R3:=Lib.hid (HR.out.on hb)
 have V3:=Lib.hid (HV.out.on hb)
 obtain ⟨cc,ff⟩:=bcell hb
 have lt3:=ecell_in HK.out.1
 have t0:=(cc _ _ lt3).trans HK.out.1
 have t1:=(cc _ _ lt3).trans HK.out.2.1
 have f0:=(ff _ _ lt3).trans HK.out.2.2.1
 have f1:=(ff _ _ lt3).trans HK.out.2.2.2
 have l3:w.heap.size + 1 + 1<w3.heap.size:=Nat.lt_of_lt_of_le lt3 hb.size
 have wl:w.heap.size≤w.heap.size + 1 + 1:=by omega
 clear hb cc ff HB HR HK KI HV c15 rl lt3
 rcases hi with ⟨rfl,hn⟩ | ⟨k,rfl,hk,hx,hn⟩
 ·have E:=Lib.hid (CN.out hn)
  clear hn CN CS V3
  go_wp2
  refine bodyPost_ret (v:=.tuple #[.agg #[.int .i64 0,.int .i64 0],.bool false]) (by simp [results,Tryz.results123,go_sem,t0,t1]) rfl ⟨by rw [EA.out,ET.out,E.out];rfl,?_⟩
  repeat (first | exact B3.out | refine Below.setCell ?_ wl _)
 ·have E:=Lib.hid (CS.out k hk hx hn)
  obtain ⟨ac,cp,ec,hc⟩:=V3.out
  rcases hc with hc | ⟨g,off,rfl,hc⟩
  ·rw [hc] at hk;simp at hk
  obtain ⟨k1,k2⟩:=hc k hk
  have c15:w3.cell? ⟨w.heap.size,15,none⟩=some (.slice (some ⟨g,off,none⟩) e.chg.length cp):=by rw [← ec];exact R3.out.2.2.2.2.1
  have rl:=R3.out.lt
  rw [hx] at k1
  generalize (e.chg.getD k (0,0)).2=n at k2 E
  clear hn hx hc ec CN CS V3 R3
  go_wp2
  refine bodyPost_ret (v:=.tuple #[.agg #[.int .i64 x,.int .i64 n],.bool true]) (by simp [results,Tryz.results123,go_sem,t0,t1]) rfl ⟨by rw [EA.out,ET.out,E.out];rfl,?_⟩
  repeat (first | exact B3.out | refine Below.setCell ?_ wl _)
end Go.Proofs.YtcadomjkjoiakaaGreatDoor
