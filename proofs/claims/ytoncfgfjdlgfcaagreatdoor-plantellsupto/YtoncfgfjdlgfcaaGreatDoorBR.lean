/-
  Texts of our own that serve the card of this claim, joined into one.
-/
import Derived.Test.YtoncfgfjdlgfcaaGreatDoorBZO
import Derived.Test.YtoncfgfjdlgfcaaGreatDoorRM
import Derived.BigQuiet
namespace Go.Proofs.YtoncfgfjdlgfcaaGreatDoor.Bz
open Go.RowKit
theorem rTime_any (t:Int) (w:World) :
 Calls Tryz.prog 16 #[.int .i64 t] w fun e w'=>e=.returned (.bool (ist t))∧w'=w:=by
 by_cases h:1≤t
 all_goals
  go_enter Tryz.func16,Tryz.ntmps16
  go_wp2
  go_ret
  exact ⟨ret_bool (by unfold ist;rw [Bool.eq_iff_iff];simp;omega),rfl⟩
set_option maxRecDepth 100000 in
theorem rSlot_any (n:Int) (l:List Bz) (v:Value) (w:World) (hv:Rb w v l) (hl:l.length≤1000000) (hs:∀ x∈l,Sm x) :
 Calls Tryz.prog 17 #[v,.int .i64 n] w fun e w'=>e=.returned (.tuple #[.int .i64 (slT n l),.int .i64 (slE n l)])∧Below w.heap.size w w':=by
 have HV:=Lib.hid hv
 have HS:=Lib.hid hs
 obtain ⟨a,cap,ev,_⟩:=hv
 subst ev
 clear hs
 by_cases h1:n<1∨1000000<n
 ·have EE:Hid (slE n l=1∧slT n l=0):=Lib.hid ⟨if_pos h1,if_pos h1⟩
  generalize slE n l=E1 at EE ⊢
  generalize slT n l=T1 at EE ⊢
  by_cases h2:n<1
  all_goals
   try (have h3:1000000<n:=by omega)
   clear h1
   go_enter Tryz.func17,Tryz.ntmps17
   go_wp2
   go_ret2
   exact ⟨ret_two EE.out.2.symm EE.out.1.symm,Below.refl _ _⟩
 have h2:¬ n<1:=by omega
 have h3:¬ 1000000<n:=by omega
 have EE:Hid (slE n l=(if l.any (loB n)=true then 0 else 5)∧slT n l=slI n l):=Lib.hid ⟨if_neg h1,if_neg h1⟩
 generalize slE n l=E1 at EE ⊢
 generalize slT n l=T1 at EE ⊢
 clear h1
 go_enter Tryz.func17,Tryz.ntmps17
 go_wp2
 go_loopw [6] (fun i wr=>∃ k:Nat,k≤l.length∧i=.int .i64 k∧Hid ((l.take k).any (loB n)=false)∧Below w.heap.size w wr) (fun i _=>l.length - (intOf i).toNat)
 case atStart=>exact ⟨0,Nat.zero_le _,rfl,Lib.hid rfl,Below.refl _ _⟩
 case round=>
  obtain ⟨k,hk,rfl,HF,hB⟩:=hrel
  have HB:=Lib.hid hB
  by_cases hlt:k<l.length
  ·obtain ⟨b,off,ea,_,c1,c2⟩:=rb_at (HV.out.on hB) hlt
   subst ea
   have XM:l.getD k (0,0)∈l:=by rw [List.getD_eq_getElem?_getD,List.getElem?_eq_getElem hlt];exact List.getElem_mem _
   obtain ⟨⟨s1,s2⟩,s3,s4⟩:=HS.out _ XM
   have bl:=cell_in c1
   rcases hp:loB n (l.getD k (0,0)) with _ | _
   ·have N1:=Lib.hid (any_tk (loB n) l k hlt HF.out hp)
    unfold loB at hp
    clear XM hB
    generalize l.getD k (0,0)=X at c1 c2 s1 s2 s3 s4 hp
    have w1:IntKind.i64.wrap (X.2 - X.1)=X.2 - X.1:=by rw [IntKind.wrap_i64];omega
    go_wp2_with fail
    go_quiet (fail)
    have B9:=Lib.hid (HB.out.trans ((below_dr wr nq).mono HB.out.size))
    go_wp2
    go_roundw
    case rel=>exact ⟨k + 1,by omega,by go_num,N1,B9.out⟩
    case measure=>simp [intOf];omega
   ·have N:Hid (E1=0∧T1=(l.getD k (0,0)).1):=Lib.hid ⟨by rw [EE.out.1,if_pos (List.any_eq_true.2 ⟨_,XM,hp⟩)],by rw [EE.out.2,slI_at hlt HF.out hp]⟩
    unfold loB at hp
    clear XM hB
    generalize l.getD k (0,0)=X at c1 c2 s1 s2 s3 s4 hp N
    have w1:IntKind.i64.wrap (X.2 - X.1)=X.2 - X.1:=by rw [IntKind.wrap_i64];omega
    go_wp2_with fail
    go_quiet (fail)
    have b9:=below_dr wr nq
    have B9:=Lib.hid (HB.out.trans (b9.mono HB.out.size))
    have d1:=(b9.cell (p:=⟨b,off + k * 2,none⟩) bl).trans c1
    generalize wr.drewN nq=W9 at B9 d1 ⊢
    have dl:=cell_in d1
    clear c1 c2 bl b9
    go_wp2
    go_ret2
    exact ⟨ret_two N.out.2.symm N.out.1.symm,B9.out⟩
  ·have N:Hid (E1=5∧T1=0):=Lib.hid (by
    have ha:=HF.out
    rw [List.take_of_length_le (by omega)] at ha
    exact ⟨by rw [EE.out.1,ha];rfl,by rw [EE.out.2,slI_none ha]⟩)
   go_wp2
   go_ret2
   exact ⟨ret_two N.out.2.symm N.out.1.symm,HB.out⟩
set_option maxRecDepth 100000 in
theorem rSame_any (l:List Bz) (va vb:Value) (w:World) (ha:Rb w va l) (hb:Rb w vb l) (hl:l.length≤2000000) :
 Calls Tryz.prog 12 #[va,vb] w fun e w'=>e=.returned (.bool true)∧Below w.heap.size w w':=by
 have HA:=Lib.hid ha
 have HBb:=Lib.hid hb
 obtain ⟨aa,ca,ea,_⟩:=ha
 obtain ⟨ab,cb,eb,_⟩:=hb
 subst ea eb
 go_enter Tryz.func12,Tryz.ntmps12
 go_wp2
 go_loopw [5] (fun i wr=>∃ k:Nat,k≤l.length∧i=.int .i64 k∧Below w.heap.size w wr) (fun i _=>l.length - (intOf i).toNat)
 case atStart=>exact ⟨0,Nat.zero_le _,rfl,Below.refl _ _⟩
 case round=>
  obtain ⟨k,hk,rfl,hB⟩:=hrel
  by_cases hlt:k<l.length
  ·obtain ⟨b,off,e1,_,p0,p1⟩:=rb_at (HA.out.on hB) hlt
   obtain ⟨b2,off2,e2,_,q0,q1⟩:=rb_at (HBb.out.on hB) hlt
   subst e1 e2
   generalize l.getD k (0,0)=Y at p0 p1 q0 q1
   obtain ⟨x,y⟩:=Y
   dsimp only at p0 p1 q0 q1
   go_wp2_with fail
   go_quiet (fail)
   have B9:=Lib.hid (hB.trans ((below_dr wr nq).mono hB.size))
   go_wp2
   go_roundw
   case rel=>exact ⟨k + 1,by omega,by go_num,B9.out⟩
   case measure=>simp [intOf];omega
  ·go_wp2
   go_ret
   exact ⟨rfl,hB⟩
end Go.Proofs.YtoncfgfjdlgfcaaGreatDoor.Bz
namespace Go.Proofs.YtoncfgfjdlgfcaaGreatDoor.Bz
open Go.RowKit
def PtI (out:List Bz) (R:List Bz) (k:Nat) (b:Bz) (p:Bool) (g:List Bz):Prop:=
 b.1<b.2∧((p=false∧g++pt1 b (out.drop k)=R)∨(p=true∧g++out.drop k=R∧∀ o∈out.drop k,b.2<o.1))
theorem PtI.low {out R:List Bz} {k:Nat} {b:Bz} {p:Bool} {g:List Bz} (h:PtI out R k b p g) (hk:k<out.length) (hp:p=false) (c:(out.getD k (0,0)).2<b.1):PtI out R (k + 1) b p (g++[out.getD k (0,0)]):=by
 obtain ⟨h1,h2 | h2⟩:=h
 ·refine ⟨h1,Or.inl ⟨hp,?_⟩⟩
  rw [← h2.2,List.drop_eq_getElem_cons hk]
  have e:out.getD k (0,0)=out[k]:=by rw [List.getD_eq_getElem?_getD,List.getElem?_eq_getElem hk];rfl
  rw [e] at c ⊢
  conv=>rhs;unfold pt1
  rw [if_pos c]
  simp
 ·rw [hp] at h2
  exact absurd h2.1 (by simp)
theorem PtI.put {out R:List Bz} {k:Nat} {b:Bz} {g:List Bz} (h:PtI out R k b false g) (hc:Cn out) (hk:k<out.length) (c:¬ (out.getD k (0,0)).2<b.1) (c2:b.2<(out.getD k (0,0)).1):PtI out R (k + 1) b true (g++[b]++[out.getD k (0,0)]):=by
 obtain ⟨h1,h2 | h2⟩:=h
 ·have e:out.getD k (0,0)=out[k]:=by rw [List.getD_eq_getElem?_getD,List.getElem?_eq_getElem hk];rfl
  have hd:Cn (out[k] :: out.drop (k + 1)):=by
   rw [← List.drop_eq_getElem_cons hk]
   exact ⟨List.Pairwise.sublist (List.drop_sublist k out) hc.1,fun x hx=>hc.2 x (List.mem_of_mem_drop hx)⟩
  obtain ⟨d1,d2,_⟩:=cn_cons.1 hd
  rw [e] at c c2 ⊢
  refine ⟨h1,Or.inr ⟨rfl,?_,fun o ho=>?_⟩⟩
  ·rw [← h2.2,List.drop_eq_getElem_cons hk]
   conv=>rhs;unfold pt1
   rw [if_neg c,if_pos c2]
   simp
  ·have:=d2 o ho
   omega
 ·exact absurd h2.1 (by simp)
theorem PtI.on {out R:List Bz} {k:Nat} {b:Bz} {g:List Bz} (h:PtI out R k b true g) (hc:Cn out) (hk:k<out.length):(¬ (out.getD k (0,0)).2<b.1∧b.2<(out.getD k (0,0)).1)∧PtI out R (k + 1) b true (g++[out.getD k (0,0)]):=by
 obtain ⟨h1,h2 | h2⟩:=h
 ·exact absurd h2.1 (by simp)
 ·have e:out.getD k (0,0)=out[k]:=by rw [List.getD_eq_getElem?_getD,List.getElem?_eq_getElem hk];rfl
  rw [e]
  obtain ⟨_,h3,h4⟩:=h2
  rw [List.drop_eq_getElem_cons hk] at h3 h4
  have a:=h4 out[k] List.mem_cons_self
  have b2:=hc.2 out[k] (List.getElem_mem hk)
  exact ⟨⟨by omega,a⟩,h1,Or.inr ⟨rfl,by rw [← h3];simp,fun o ho=>h4 o (List.mem_cons_of_mem _ ho)⟩⟩
theorem PtI.join {out R:List Bz} {k:Nat} {b:Bz} {g:List Bz} (h:PtI out R k b false g) (hk:k<out.length) (c:¬ (out.getD k (0,0)).2<b.1) (c2:¬ b.2<(out.getD k (0,0)).1):PtI out R (k + 1) (min (out.getD k (0,0)).1 b.1,max (out.getD k (0,0)).2 b.2) false g:=by
 obtain ⟨h1,h2 | h2⟩:=h
 ·have e:out.getD k (0,0)=out[k]:=by rw [List.getD_eq_getElem?_getD,List.getElem?_eq_getElem hk];rfl
  rw [e] at c c2 ⊢
  refine ⟨by show min _ _<max _ _;omega,Or.inl ⟨rfl,?_⟩⟩
  rw [← h2.2,List.drop_eq_getElem_cons hk]
  conv=>rhs;unfold pt1
  rw [if_neg c,if_neg c2]
 ·exact absurd h2.1 (by simp)
theorem PtI.len {out R:List Bz} {k:Nat} {b:Bz} {p:Bool} {g:List Bz} (h:PtI out R k b p g):g.length≤R.length:=by
 obtain ⟨_,h2 | h2⟩:=h
 ·rw [← h2.2,List.length_append];omega
 ·rw [← h2.2.1,List.length_append];omega
structure Nx (w1:World) (bb:Nat) (b:Bz) (u:Value) (g:List Bz) (W:World):Prop where
 bx:BBx W bb b
 fz:∀ o,W.frozen? ⟨bb,o,none⟩=false
 ob:Ob W w1.heap.size u g
 kb:Kb w1.heap.size bb bb w1 W
 lo:bb<w1.heap.size
theorem Nx.on {w1 W W':World} {bb:Nat} {b:Bz} {u:Value} {g:List Bz} (h:Nx w1 bb b u g W) (q:Below W.heap.size W W'):Nx w1 bb b u g W':=
 ⟨h.bx.on q,fun o=>(q.frozen (p:=⟨bb,o,none⟩) (Nat.lt_of_lt_of_le h.lo h.kb.size)).trans (h.fz o),ow_below h.ob q,h.kb.on (q.mono h.kb.size),h.lo⟩
theorem Nx.more {w1 W W':World} {bb:Nat} {b:Bz} {u v:Value} {g g':List Bz} (h:Nx w1 bb b u g W) (q:Below w1.heap.size W W') (o:Ob W' w1.heap.size v g'):Nx w1 bb b v g' W':=
 ⟨⟨(q.cell (p:=⟨bb,0,none⟩) h.lo).trans h.bx.1,(q.cell (p:=⟨bb,1,none⟩) h.lo).trans h.bx.2⟩,fun j=>(q.frozen (p:=⟨bb,j,none⟩) h.lo).trans (h.fz j),o,h.kb.on q,h.lo⟩
theorem bx_set0 {W:World} {b:Nat} {x:Bz} (h:BBx W b x) (a:Int):BBx (W.setCell ⟨b,0,none⟩ (.int .i64 a)) b (a,x.2):=
 ⟨set_same h.1,(World.cell?_setCell_other W ⟨b,0,none⟩ ⟨b,1,none⟩ _ (by simp)).trans h.2⟩
theorem bx_set1 {W:World} {b:Nat} {x:Bz} (h:BBx W b x) (a:Int):BBx (W.setCell ⟨b,1,none⟩ (.int .i64 a)) b (x.1,a):=
 ⟨(World.cell?_setCell_other W ⟨b,1,none⟩ ⟨b,0,none⟩ _ (by simp)).trans h.1,set_same h.2⟩
theorem Nx.set0 {w1 W:World} {bb:Nat} {b:Bz} {u:Value} {g:List Bz} (h:Nx w1 bb b u g W) (a:Int):Nx w1 bb (a,b.2) u g (W.setCell ⟨bb,0,none⟩ (.int .i64 a)):=
 ⟨bx_set0 h.bx a,fun o=>by rw [World.frozen?_setCell];exact h.fz o,ob_set h.ob h.lo,h.kb.set bb 0 _ (Or.inl rfl),h.lo⟩
theorem Nx.set1 {w1 W:World} {bb:Nat} {b:Bz} {u:Value} {g:List Bz} (h:Nx w1 bb b u g W) (a:Int):Nx w1 bb (b.1,a) u g (W.setCell ⟨bb,1,none⟩ (.int .i64 a)):=
 ⟨bx_set1 h.bx a,fun o=>by rw [World.frozen?_setCell];exact h.fz o,ob_set h.ob h.lo,h.kb.set bb 1 _ (Or.inl rfl),h.lo⟩
theorem nx_set_other {W:World} {c bb o:Nat} {x:Bz} {v:Value} (h:BBx W c x) (hn:c≠bb):BBx (W.setCell ⟨bb,o,none⟩ v) c x:=⟨(set_other hn).trans h.1,(set_other hn).trans h.2⟩
theorem nrF_step (l:List Bz) (k:Nat) (h:k<l.length):(l.take (k + 1)).foldl nrF []=nrF ((l.take k).foldl nrF []) (l.getD k (0,0)):=by
 rw [List.take_succ_eq_append_getElem h,List.foldl_append,List.getD_eq_getElem?_getD,List.getElem?_eq_getElem h]
 rfl
theorem rt_take {l:List Bz} (h:Rt l) (k:Nat):Rt (l.take k):=fun x hx=>h x (List.mem_of_mem_take hx)
set_option maxRecDepth 100000 in
set_option maxHeartbeats 8000000 in
theorem rNorm_any (l:List Bz) (v:Value) (w:World) (hv:Rb w v l) (hl:l.length≤1000) (hr:Rt l) :
 Calls Tryz.prog 42 #[v] w fun e w'=>∃ u,e=.returned u∧Ob w' w.heap.size u (nrm l)∧Below w.heap.size w w':=by
 have HV:=Lib.hid hv
 have HRT:=Lib.hid hr
 obtain ⟨a,cap,ev,_⟩:=hv
 subst ev
 clear hr
 go_enter Tryz.func42,Tryz.ntmps42
 go_wp2
 go_loopw [3,4,5,6,7,8,9] (fun uv i _ _ _ _ _ wr=>∃ (k:Nat) (u:Value),k≤l.length∧i=.int .i64 k∧uv=u∧Hid (Ob wr w.heap.size u ((l.take k).foldl nrF []))∧Below w.heap.size w wr) (fun _ i _ _ _ _ _ _=>l.length - (intOf i).toNat)
 case atStart=>exact ⟨0,_,Nat.zero_le _,rfl,rfl,Lib.hid (World.ownsRow_nil _ _ _ _),Below.refl _ _⟩
 case round=>
  obtain ⟨k,u,hk,rfl,hu,HO,hB⟩:=hrel
  replace hu:=hu.symm
  subst hu
  have HB:=Lib.hid hB
  by_cases hlt:k<l.length
  case neg=>
   have O9:Hid (Ob wr w.heap.size u (nrm l)):=Lib.hid (by have:=HO.out;rwa [List.take_of_length_le (by omega)] at this)
   go_wp2
   go_ret
   exact ⟨u,rfl,O9.out,HB.out⟩
  obtain ⟨b,off,ea,_,c1,c2⟩:=rb_at (HV.out.on hB) hlt
  subst ea
  have ST:=Lib.hid (nrF_step l k hlt)
  have XM:l.getD k (0,0)∈l:=by rw [List.getD_eq_getElem?_getD,List.getElem?_eq_getElem hlt];exact List.getElem_mem _
  have XR:=HRT.out _ XM
  obtain ⟨n1,n2,n3⟩:=nrF_all (l.take k) [] cn_nil (rt_take HRT.out k)
  have OL:((l.take k).foldl nrF []).length≤1000:=by simp at n3;omega
  have CO:=Lib.hid n1
  generalize (l.take k).foldl nrF []=out at HO ST OL CO n1 n2 n3
  obtain ⟨X,hX⟩:∃ X,X=l.getD k (0,0):=⟨_,rfl⟩
  rw [← hX] at c1 c2 ST XR
  have bl:=cell_in c1
  have T3:=BBx.new wr X 99
  have b3:=below_one wr (.cells #[.int .i64 X.1,.int .i64 X.2] 99)
  have fz:∀ o,(wr.alloc (.cells #[.int .i64 X.1,.int .i64 X.2] 99)).frozen? ⟨wr.heap.size,o,none⟩=false:=fun o=>by simp
  obtain ⟨w1,hw1⟩:∃ w1,w1=wr.alloc (.cells #[.int .i64 X.1,.int .i64 X.2] 99):=⟨_,rfl⟩
  rw [← hw1] at T3 b3 fz
  have HW1:=Lib.hid hw1
  have HT:=Lib.hid T3
  have B1:=Lib.hid (HB.out.trans (b3.mono HB.out.size))
  have O1:Hid (Ob w1 w.heap.size u out):=Lib.hid (ow_below HO.out b3)
  have BN:Hid (∀ g,u.ownBlock=some g→g<wr.heap.size):=Lib.hid (fun g hg=>(HO.out.lt g hg).2)
  have FZ:=Lib.hid fz
  have WB:Hid (w.heap.size≤wr.heap.size):=Lib.hid HB.out.size
  have ZB:Hid (wr.heap.size<w1.heap.size):=Lib.hid (cell_in T3.1)
  clear hw1 T3 b3 fz hX XM n1 n2 n3 hB HO
  go_upto_region 6 with fail
  rw [← HW1.out]
  clear HW1 c1 c2 bl
  obtain ⟨bb,hbb⟩:∃ bb,bb=wr.heap.size:=⟨_,rfl⟩
  rw [← hbb] at HT FZ WB ZB BN ⊢
  obtain ⟨t0,t1⟩:=HT.out
  have tl:=cell_in t0
  clear hbb
  by_cases q0:X.1=X.2
  ·have q1:(X.1 == X.2)=true:=by simpa using q0
   have N2:Hid (Ob w1 w.heap.size u ((l.take (k + 1)).foldl nrF [])):=Lib.hid (by rw [ST.out];unfold nrF;rw [if_pos q0];exact O1.out)
   clear q0
   go_wp2
   go_roundw
   case rel=>exact ⟨k + 1,u,by omega,by go_num,rfl,N2,B1.out⟩
   case measure=>simp [intOf];omega
  have q1:(X.1 == X.2)=false:=by simpa using q0
  obtain ⟨R,hR⟩:∃ R,R=pt1 X out:=⟨_,rfl⟩
  have RL:R.length≤1001:=by rw [hR];have:=pt1_len out X;omega
  have P0:Hid (PtI out R 0 X false []):=Lib.hid ⟨by omega,Or.inl ⟨rfl,by rw [hR];rfl⟩⟩
  have ST2:Hid ((l.take (k + 1)).foldl nrF []=R):=Lib.hid (by rw [ST.out,hR];unfold nrF;rw [if_neg q0])
  have X0:Hid (Nx w1 bb X (.slice none 0 0) [] w1):=Lib.hid ⟨HT.out,FZ.out,World.ownsRow_nil _ _ _ _,Kb.refl _ _ _ _,ZB.out⟩
  obtain ⟨au,cu,eu,_⟩:=O1.out.rb
  subst eu
  clear q0 hR ST XR HT FZ
  go_wp2_with fail
  clear t0 t1 tl
  go_loopw [6,7,8,9] (fun gv pv jv _ wr2=>∃ (j:Nat) (g:Value) (p:Bool) (y:Bz) (G:List Bz),j≤out.length∧gv=g∧pv=.bool p∧jv=.int .i64 j∧Hid (PtI out R j y p G)∧Hid (Nx w1 bb y g G wr2)) (fun _ _ jv _ _=>out.length - (intOf jv).toNat)
  case atStart=>exact ⟨0,_,false,X,[],Nat.zero_le _,rfl,rfl,rfl,P0,X0⟩
  case round=>
   obtain ⟨j,g,p,y,G,hj,hg,rfl,rfl,HP,HN⟩:=hrel
   replace hg:=hg.symm
   subst hg
   by_cases hjl:j<out.length
   case neg=>
    have jd:out.drop j=[]:=List.drop_eq_nil_of_le (by omega)
    have KB:Hid (∀ W,Kb w1.heap.size bb bb w1 W→Below w.heap.size w W):=Lib.hid (fun W q=>B1.out.trans (q.below B1.out.size WB.out WB.out))
    rcases p with _ | _
    ·have EG:Hid (G++[y]=R):=Lib.hid (by
      rcases HP.out.2 with q | q
      ·have:=q.2
       rwa [jd] at this
      ·exact absurd q.1 (by simp))
     obtain ⟨t0,t1⟩:=HN.out.bx
     have tl:=cell_in t0
     have GL:G.length≤1001:=Nat.le_trans HP.out.len RL
     obtain ⟨v6,w6,ap,o6,b6⟩:=ap_next y HN.out.ob HN.out.kb.size (by omega)
     have AP:=Lib.hid ap
     have O6:Hid (Ob w6 w.heap.size v6 ((l.take (k + 1)).foldl nrF [])):=Lib.hid (by rw [ST2.out,← EG.out];exact own_mono o6 B1.out.size)
     have B6:=Lib.hid (KB.out w6 (HN.out.kb.on b6))
     clear ap o6 b6 jd HP HN KB
     go_wp2_with (at_builtin;refine wpl_app rfl _ _ 46 rfl _ _ _ _ rfl rfl AP.out ?_)
     go_roundw
     case rel=>exact ⟨k + 1,v6,by omega,by go_num,rfl,O6,B6.out⟩
     case measure=>simp [intOf];omega
    ·have O6:Hid (Ob wr w.heap.size g ((l.take (k + 1)).foldl nrF [])):=Lib.hid (by
      rcases HP.out.2 with q | q
      ·exact absurd q.1 (by simp)
      ·have e:=q.2.1
       rw [jd,List.append_nil] at e
       rw [ST2.out,← e]
       exact own_mono HN.out.ob B1.out.size)
     have B6:=Lib.hid (KB.out wr HN.out.kb)
     clear jd HP HN KB
     go_wp2
     go_roundw
     case rel=>exact ⟨k + 1,g,by omega,by go_num,rfl,O6,B6.out⟩
     case measure=>simp [intOf];omega
   obtain ⟨d,doff,ea,_,e1,e2⟩:=rb_at O1.out.rb hjl
   subst ea
   have db:=BN.out d rfl
   have f1:=(HN.out.kb.cell (o:=doff + j * 2) (b:=d) (by have:=ZB.out;omega) (by omega) (by omega)).trans e1
   have f2:=(HN.out.kb.cell (o:=doff + j * 2 + 1) (b:=d) (by have:=ZB.out;omega) (by omega) (by omega)).trans e2
   have fl:=cell_in f1
   have GL:G.length≤1001:=Nat.le_trans HP.out.len RL
   obtain ⟨O,hO⟩:∃ O,O=out.getD j (0,0):=⟨_,rfl⟩
   have T3:=BBx.new wr O 99
   have b3:=below_one wr (.cells #[.int .i64 O.1,.int .i64 O.2] 99)
   rw [← hO] at f1 f2
   obtain ⟨w3,hw3⟩:∃ w3,w3=wr.alloc (.cells #[.int .i64 O.1,.int .i64 O.2] 99):=⟨_,rfl⟩
   rw [← hw3] at T3 b3
   have HW3:=Lib.hid hw3
   have HT3:=Lib.hid T3
   have N3:=Lib.hid (HN.out.on b3)
   have ZO:Hid (wr.heap.size<w3.heap.size∧w1.heap.size≤wr.heap.size∧(∀ x,g.ownBlock=some x→x≠wr.heap.size)):=Lib.hid ⟨cell_in T3.1,HN.out.kb.size,fun x hx=>by have:=(HN.out.ob.lt x hx).2;omega⟩
   have HOe:=Lib.hid hO
   clear e1 e2 hO T3 b3 hw3 HN
   go_upto_region 13 with fail
   rw [← HW3.out]
   clear HW3 f1 f2 fl
   obtain ⟨bo,hbo⟩:∃ bo,bo=wr.heap.size:=⟨_,rfl⟩
   rw [← hbo] at HT3 ZO ⊢
   clear hbo
   obtain ⟨s0,s1⟩:=HT3.out
   have sl:=cell_in s0
   obtain ⟨t0,t1⟩:=N3.out.bx
   have tl:=cell_in t0
   have z0:=N3.out.fz 0
   have z1:=N3.out.fz 1
   have nb:bo≠bb:=by have:=ZO.out;have:=ZB.out;omega
   rcases p with _ | _
   ·by_cases c1:O.2<y.1
    ·have PN:Hid (PtI out R (j + 1) y false (G++[O])):=Lib.hid (by have:=HP.out.low hjl rfl (by rw [← HOe.out];exact c1);rwa [← HOe.out] at this)
     obtain ⟨v6,w6,ap,o6,b6⟩:=ap_next O N3.out.ob N3.out.kb.size (by omega)
     have AP:=Lib.hid ap
     have X6:=Lib.hid (N3.out.more b6 o6)
     clear ap o6 b6 HP N3 nb
     go_wp2_with (at_builtin;refine wpl_app rfl _ _ 46 rfl _ _ _ _ rfl rfl AP.out ?_)
     go_roundw
     case rel=>exact ⟨j + 1,v6,false,y,_,by omega,rfl,rfl,by go_num,PN,X6⟩
     case measure=>simp [intOf];omega
    by_cases c2:y.2<O.1
    ·have PN:Hid (PtI out R (j + 1) y true (G++[y]++[O])):=Lib.hid (by have:=HP.out.put CO.out hjl (by rw [← HOe.out];exact c1) (by rw [← HOe.out];exact c2);rwa [← HOe.out] at this)
     obtain ⟨v6,w6,ap,o6,b6,k6⟩:=ap_own y N3.out.ob N3.out.kb.size (by omega)
     have AP:=Lib.hid ap
     have xk:w6.heap[bo]?=w3.heap[bo]?:=k6 bo ZO.out.1 (fun e=>ZO.out.2.2 _ e rfl)
     have r0:w6.cell? ⟨bo,0,none⟩=some (.int .i64 O.1):=by rw [← s0];simp [World.cell?,xk]
     have r1:w6.cell? ⟨bo,1,none⟩=some (.int .i64 O.2):=by rw [← s1];simp [World.cell?,xk]
     have R6:=Lib.hid (show BBx w6 bo O from ⟨r0,r1⟩)
     have X6:Hid (Nx w1 bb y v6 (G++[y]) w6):=Lib.hid (N3.out.more b6 o6)
     clear ap o6 b6 HP N3 nb k6 xk r0 r1
     go_upto_region 18 with (at_builtin;refine wpl_app rfl _ _ 46 rfl _ _ _ _ rfl rfl AP.out ?_)
     clear AP s0 s1 sl t0 t1 tl z0 z1
     obtain ⟨s0,s1⟩:=R6.out
     have sl:=cell_in s0
     obtain ⟨v7,w7,ap,o7,b7⟩:=ap_next O X6.out.ob X6.out.kb.size (by rw [List.length_append];simp;omega)
     have AP:=Lib.hid ap
     have X7:=Lib.hid (X6.out.more b7 o7)
     clear ap o7 b7 X6 R6
     go_wp2_with (at_builtin;refine wpl_app rfl _ _ 46 rfl _ _ _ _ rfl rfl AP.out ?_)
     go_roundw
     case rel=>exact ⟨j + 1,v7,true,y,_,by omega,rfl,rfl,by go_num,PN,X7⟩
     case measure=>simp [intOf];omega
    have PN:=Lib.hid (HP.out.join hjl (by rw [← HOe.out];exact c1) (by rw [← HOe.out];exact c2))
    rw [← HOe.out] at PN
    clear HP
    by_cases q3:O.1<y.1
    case' pos=>
     have X5:=Lib.hid (N3.out.set0 O.1)
     have R5:=Lib.hid (nx_set_other (bb:=bb) (o:=0) (v:=.int .i64 O.1) HT3.out nb)
     have m1:min O.1 y.1=O.1:=by omega
     go_upto_region 22 with fail
     obtain ⟨w5,hw5⟩:∃ w5,w5=w3.setCell ⟨bb,0,none⟩ (.int .i64 O.1):=⟨_,rfl⟩
     rw [← hw5] at X5 R5 ⊢
     obtain ⟨y1,hy1⟩:∃ y1,y1=O.1:=⟨_,rfl⟩
     replace X5:Hid (Nx w1 bb (y1,y.2) g G w5):=Lib.hid (by rw [hy1];exact X5.out)
     have Y1:Hid (min O.1 y.1=y1):=Lib.hid (by rw [hy1];exact m1)
     clear hw5 hy1 m1
    case' neg=>
     have X5:=N3
     have R5:=HT3
     have m1:min O.1 y.1=y.1:=by omega
     go_upto_region 22 with fail
     obtain ⟨w5,hw5⟩:∃ w5,w5=w3:=⟨_,rfl⟩
     rw [← hw5] at X5 R5 ⊢
     obtain ⟨y1,hy1⟩:∃ y1,y1=y.1:=⟨_,rfl⟩
     replace X5:Hid (Nx w1 bb (y1,y.2) g G w5):=Lib.hid (by rw [hy1];exact X5.out)
     have Y1:Hid (min O.1 y.1=y1):=Lib.hid (by rw [hy1];exact m1)
     clear hw5 hy1 m1
    all_goals
     clear s0 s1 sl t0 t1 tl z0 z1 N3 HT3 q3
     obtain ⟨s0,s1⟩:=R5.out
     have sl:=cell_in s0
     obtain ⟨t0,t1⟩:=X5.out.bx
     dsimp only at t0 t1
     have tl:=cell_in t0
     have z1:=X5.out.fz 1
     by_cases q4:y.2<O.2
     case' pos=>
      have X6:=Lib.hid (X5.out.set1 O.2)
      have PN2:Hid (PtI out R (j + 1) (y1,O.2) false G):=Lib.hid (by have:=PN.out;rwa [Y1.out,show max O.2 y.2=O.2 by omega] at this)
      clear PN Y1 X5 R5 nb
      go_wp2
      go_roundw
      case rel=>exact ⟨j + 1,g,false,(y1,O.2),G,by omega,rfl,rfl,by go_num,PN2,X6⟩
      case measure=>simp [intOf];omega
     case' neg=>
      have PN2:Hid (PtI out R (j + 1) (y1,y.2) false G):=Lib.hid (by have:=PN.out;rwa [Y1.out,show max O.2 y.2=y.2 by omega] at this)
      clear PN Y1 R5 nb
      go_wp2
      go_roundw
      case rel=>exact ⟨j + 1,g,false,(y1,y.2),G,by omega,rfl,rfl,by go_num,PN2,X5⟩
      case measure=>simp [intOf];omega
   ·obtain ⟨⟨c1,c2⟩,PN0⟩:=HP.out.on CO.out hjl
    rw [← HOe.out] at c1 c2 PN0
    have PN:=Lib.hid PN0
    obtain ⟨v6,w6,ap,o6,b6⟩:=ap_next O N3.out.ob N3.out.kb.size (by omega)
    have AP:=Lib.hid ap
    have X6:=Lib.hid (N3.out.more b6 o6)
    clear ap o6 b6 HP N3 nb PN0
    go_wp2_with (at_builtin;refine wpl_app rfl _ _ 46 rfl _ _ _ _ rfl rfl AP.out ?_)
    go_roundw
    case rel=>exact ⟨j + 1,v6,true,y,_,by omega,rfl,rfl,by go_num,PN,X6⟩
    case measure=>simp [intOf];omega
end Go.Proofs.YtoncfgfjdlgfcaaGreatDoor.Bz
namespace Go.Proofs.YtoncfgfjdlgfcaaGreatDoor.Bz
open Go.RowKit
set_option maxRecDepth 100000 in
set_option maxHeartbeats 8000000 in
theorem rFree_any (l:List Bz) (fr t:Int) (v:Value) (w:World) (hv:Rb w v l) (hl:l.length≤1000) (hr:Rt l) :
 Calls Tryz.prog 18 #[v,.int .i64 fr,.int .i64 t] w fun e w'=>∃ u,e=.returned u∧Ob w' w.heap.size u (fre t fr (nrm l))∧Below w.heap.size w w':=by
 have K:=Lib.hid (rNorm_any l v w hv hl hr)
 have ML:(nrm l).length≤1000:=Nat.le_trans (nrm_len hr) hl
 generalize nrm l=M at K ML ⊢
 obtain ⟨R,hR⟩:∃ R,R=fre t fr M:=⟨_,rfl⟩
 rw [← hR]
 have HR:=Lib.hid hR
 have RL:Hid (R.length≤1001):=Lib.hid (by rw [hR];have:=fre_len t M fr;omega)
 clear hv hr hR
 go_enter Tryz.func18,Tryz.ntmps18
 go_wp2_with fail
 refine K.out.mono ?_
 rintro e w1 ⟨u1,rfl,ho,hb⟩
 have O1:=Lib.hid ho
 have B1:=Lib.hid hb
 obtain ⟨am,cm,em,_⟩:=ho.rb
 subst em
 clear ho hb K
 go_wp2_with fail
 go_loopw [7,9,10,11] (fun xv av iv _ wr=>∃ (k:Nat) (x:Value) (a:Int) (g:List Bz),k≤M.length∧xv=x∧av=.int .i64 a∧iv=.int .i64 k∧Hid (Ob wr w1.heap.size x g)∧Hid (g++fre t a (M.drop k)=R)∧Below w1.heap.size w1 wr) (fun _ _ iv _ _=>M.length - (intOf iv).toNat)
 case atStart=>exact ⟨0,_,fr,[],Nat.zero_le _,rfl,rfl,rfl,Lib.hid (World.ownsRow_nil _ _ _ _),Lib.hid (by rw [HR.out];rfl),Below.refl _ _⟩
 case round=>
  obtain ⟨k,x,a,g,hk,hx,rfl,rfl,HO,HE,hB⟩:=hrel
  replace hx:=hx.symm
  subst hx
  have HB:=Lib.hid hB
  have GL:g.length≤1001:=by have:=RL.out;rw [← HE.out,List.length_append] at this;omega
  by_cases hlt:k<M.length
  case neg=>
   have E9:Hid (g++frp a t=R):=Lib.hid (by have:=HE.out;rwa [show k=M.length by omega,List.drop_length] at this)
   by_cases c:a<t
   ·obtain ⟨v6,w6,ap,o6,b6⟩:=ap_next (a,t) HO.out hB.size (by omega)
    have AP:=Lib.hid ap
    have O6:Hid (Ob w6 w.heap.size v6 R):=Lib.hid (by rw [← E9.out];unfold frp;rw [if_pos c];exact own_mono o6 B1.out.size)
    have B6:=Lib.hid (B1.out.trans ((HB.out.trans b6).mono B1.out.size))
    clear ap o6 b6 hB
    go_wp2_with (at_builtin;refine wpl_app rfl _ _ 46 rfl _ _ _ _ rfl rfl AP.out ?_)
    go_ret
    exact ⟨v6,rfl,O6.out,B6.out⟩
   ·have O6:Hid (Ob wr w.heap.size x R):=Lib.hid (by rw [← E9.out];unfold frp;rw [if_neg c,List.append_nil];exact own_mono HO.out B1.out.size)
    have B6:=Lib.hid (B1.out.trans (HB.out.mono B1.out.size))
    clear hB
    go_wp2
    go_ret
    exact ⟨x,rfl,O6.out,B6.out⟩
  obtain ⟨b,off,ea,_,c1,c2⟩:=rb_at (O1.out.rb.on hB) hlt
  subst ea
  have ST:=Lib.hid (fre_step t a M k hlt)
  have CX:Hid (∀ W,Below w1.heap.size w1 W→W.cell? ⟨b,off + k * 2,none⟩=some (.int .i64 (M.getD k (0,0)).1)∧W.cell? ⟨b,off + k * 2 + 1,none⟩=some (.int .i64 (M.getD k (0,0)).2)):=Lib.hid (fun W q=>by
   obtain ⟨b',off',e',_,d1,d2⟩:=rb_at (O1.out.rb.on q) hlt
   simp only [Option.some.injEq,Addr.mk.injEq,and_true] at e'
   obtain ⟨rfl,rfl⟩:=e'
   exact ⟨d1,d2⟩)
  generalize M.getD k (0,0)=X at c1 c2 ST CX
  have bl:=cell_in c1
  have PA:Hid (∀ g',g'=g++frp a (min X.1 t)→g'++fre t (max a X.2) (M.drop (k + 1))=R):=Lib.hid (fun g' e=>by rw [e,List.append_assoc,← ST.out,HE.out])
  clear hB ST HE
  rcases Classical.em (a<X.1∧a<t) with q1 | q1
  case' inl=>
   obtain ⟨q2,q3⟩:=q1
   by_cases q4:t<X.1
   case' pos=>
    obtain ⟨E,hE⟩:∃ E,E=t:=⟨_,rfl⟩
    have mE:min X.1 t=E:=by omega
    rw [mE] at PA
    obtain ⟨v6,w6,ap,o6,b6⟩:=ap_next (a,t) HO.out HB.out.size (by omega)
    have AP:=Lib.hid ap
    have O6:Hid (Ob w6 w1.heap.size v6 (g++frp a E)):=Lib.hid (by unfold frp;rw [if_pos (by omega),hE];exact o6)
    have B6:=Lib.hid (HB.out.trans b6)
    clear ap o6 b6 hE mE HO HB
    go_upto_region 12 with (at_builtin;refine wpl_app rfl _ _ 46 rfl _ _ _ _ rfl rfl AP.out ?_)
   case' neg=>
    obtain ⟨E,hE⟩:∃ E,E=X.1:=⟨_,rfl⟩
    have mE:min X.1 t=E:=by omega
    rw [mE] at PA
    obtain ⟨v6,w6,ap,o6,b6⟩:=ap_next (a,X.1) HO.out HB.out.size (by omega)
    have AP:=Lib.hid ap
    have O6:Hid (Ob w6 w1.heap.size v6 (g++frp a E)):=Lib.hid (by unfold frp;rw [if_pos (by omega),hE];exact o6)
    have B6:=Lib.hid (HB.out.trans b6)
    clear ap o6 b6 hE mE HO HB
    go_upto_region 12 with (at_builtin;refine wpl_app rfl _ _ 46 rfl _ _ _ _ rfl rfl AP.out ?_)
  case' inr=>
   obtain ⟨E,hE⟩:∃ E,E=min X.1 t:=⟨_,rfl⟩
   rw [← hE] at PA
   obtain ⟨v6,hv6⟩:∃ v6,v6=x:=⟨_,rfl⟩
   obtain ⟨w6,hw6⟩:∃ w6,w6=wr:=⟨_,rfl⟩
   have O6:Hid (Ob w6 w1.heap.size v6 (g++frp a E)):=Lib.hid (by unfold frp;rw [if_neg (by omega),List.append_nil,hv6,hw6];exact HO.out)
   have B6:Hid (Below w1.heap.size w1 w6):=Lib.hid (by rw [hw6];exact HB.out)
   clear hE HO HB
   by_cases q2:a<X.1
   case' pos=>
    have q3:¬ a<t:=by omega
    clear q1
    go_upto_region 12 with fail
    rw [← hv6,← hw6]
    clear hv6 hw6
   case' neg=>
    clear q1
    go_upto_region 12 with fail
    rw [← hv6,← hw6]
    clear hv6 hw6
  all_goals
   clear c1 c2 bl
   obtain ⟨c1,c2⟩:=CX.out w6 B6.out
   have bl:=cell_in c1
   have P9:=Lib.hid (PA.out _ rfl)
   clear PA CX
   by_cases q5:a<X.2
   case' pos=>
    have mx:max a X.2=X.2:=by omega
    rw [mx] at P9
    clear mx
    go_wp2
    go_roundw
    case rel=>exact ⟨k + 1,v6,X.2,_,by omega,rfl,rfl,by go_num,O6,P9,B6.out⟩
    case measure=>simp [intOf];omega
   case' neg=>
    have mx:max a X.2=a:=by omega
    rw [mx] at P9
    clear mx
    go_wp2
    go_roundw
    case rel=>exact ⟨k + 1,v6,a,_,by omega,rfl,rfl,by go_num,O6,P9,B6.out⟩
    case measure=>simp [intOf];omega
end Go.Proofs.YtoncfgfjdlgfcaaGreatDoor.Bz
namespace Go.Proofs.YtoncfgfjdlgfcaaGreatDoor
open Go.RowKit
set_option maxRecDepth 100000 in
set_option maxHeartbeats 2000000 in
theorem sameInts (l:List Int) (va vb:Value) (w:World) (ha:Ints w va l) (hb:Ints w vb l) (hl:l.length≤2000000) :
 Calls Tryz.prog 23 #[va,vb] w fun e w'=>e=.returned (.bool true)∧Below w.heap.size w w':=by
 have HA:=Lib.hid ha
 have HBb:=Lib.hid hb
 obtain ⟨aa,ca,rfl,xa⟩:=ha
 obtain ⟨ab,cb,rfl,xb⟩:=hb
 clear xa xb
 go_enter Tryz.func23,Tryz.ntmps23
 go_wp2
 go_loopw [5] (fun i wr=>∃ k:Nat,k≤l.length∧i=.int .i64 k∧Below w.heap.size w wr) (fun i _=>l.length - (intOf i).toNat)
 case atStart=>exact ⟨0,Nat.zero_le _,rfl,Below.refl _ _⟩
 case round=>
  obtain ⟨k,hk,rfl,hB⟩:=hrel
  by_cases hlt:k<l.length
  ·obtain ⟨a',c',e',hc⟩:=HA.out.on hB
   obtain ⟨rfl,rfl⟩:aa=a'∧ca=c':=by simpa using e'
   obtain ⟨a2,c2,e2,hd⟩:=HBb.out.on hB
   obtain ⟨rfl,rfl⟩:ab=a2∧cb=c2:=by simpa using e2
   rcases hc with hc | ⟨b,off,rfl,hc⟩
   ·rw [hc] at hlt;simp at hlt
   rcases hd with hd | ⟨b2,off2,rfl,hd⟩
   ·rw [hd] at hlt;simp at hlt
   have q1:=hc k hlt
   have q2:=hd k hlt
   obtain ⟨x,hx⟩:∃ x,x=l.getD k 0:=⟨_,rfl⟩
   rw [← hx] at q1 q2
   clear hx hc hd e' e2
   go_wp2_with fail
   go_quiet (fail)
   go_wp2
   go_roundw
   case rel=>exact ⟨k + 1,by omega,by go_num,below_drewN hB _⟩
   case measure=>simp [intOf];omega
  ·go_wp2
   go_ret
   exact ⟨rfl,hB⟩
end Go.Proofs.YtoncfgfjdlgfcaaGreatDoor
