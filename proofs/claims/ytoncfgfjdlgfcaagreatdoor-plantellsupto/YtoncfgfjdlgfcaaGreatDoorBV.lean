/-
  Texts of our own that serve the card of this claim, joined into one.
-/
import Derived.Test.YtoncfgfjdlgfcaaGreatDoorBW
import Derived.Test.YtoncfgfjdlgfcaaGreatDoorBO
import Derived.Test.YtoncfgfjdlgfcaaGreatDoorDE
import Derived.Deep.MidRow
namespace Go.Proofs.YtoncfgfjdlgfcaaGreatDoor
open Go.RowKit Cal Txt
theorem of_new (w:World) (n0:Nat) (st:Int) (hn:n0≤w.heap.size):(w.alloc (.cells #[.int .i64 st] 3)).ownsRow n0 3 1 (.slice (some ⟨w.heap.size,0,none⟩) 1 1) 1 (nums [st]):=by
 exact ⟨rfl,Or.inr ⟨w.heap.size,1,#[.int .i64 st],rfl,hn,heap_alloc_new w _,Nat.le_refl _,by unfold maxLen;decide,rfl,rfl⟩⟩
set_option maxHeartbeats 1000000 in
theorem ofStart_once (e:Evt) (s:Evs) (fr t:Int) (w:World) (hr:e.rep=false) :
 Calls Tryz.prog 191 #[.agg (ecells e s),.int .i64 fr,.int .i64 t] w (OfA w.heap.size w [e.start]):=by
 obtain ⟨nm,tx,st,ln,rp,ru,mo,no,ch,al⟩:=e
 obtain ⟨vm,vd,vw,vp,vo,vn,vc,va⟩:=s
 dsimp only at hr
 subst hr
 have HB:=Lib.hid ((Below.refl w.heap.size w).alloc (Nat.le_refl _) (.cells #[.string nm,.string tx,.int .i64 st,.int .i64 ln,.bool false,.int .i64 ru.freq,.int .i64 ru.every,.int .i64 ru.count,.int .i64 ru.till,vm,vd,vw,vp,vo,vn,vc,va] 33))
 dsimp only [ecells]
 go_enter Tryz.func191,Tryz.ntmps191
 go_wp2
 go_ret2
 refine ⟨.slice (some ⟨w.heap.size + 1,0,none⟩) 1 1,rfl,?_,HB.out.alloc HB.out.size _⟩
 have k:=of_new (w.alloc (.cells #[.string nm,.string tx,.int .i64 st,.int .i64 ln,.bool false,.int .i64 ru.freq,.int .i64 ru.every,.int .i64 ru.count,.int .i64 ru.till,vm,vd,vw,vp,vo,vn,vc,va] 33)) w.heap.size st HB.out.size
 rw [World.size_alloc] at k
 exact k
def strB (fr t:Int):Bool:=((ist fr && ist t) && decide (fr≤t)) && decide (t - fr≤1000000)
theorem Wr.nil (n0:Nat) (w:World):Wr n0 w (.slice none 0 0) []:=World.ownsRow_nil _ _ _ _
theorem evF_lens {e:Evt} (h:evF e=0):(risB e.nots=true∧e.nots.length≤100∧e.more.length≤100)∧ruF e=0∧ist e.start=true∧(e.more.all ist=true∧e.nots.all ist=true∧risB e.more=true)∧e.chg.length≤100∧0≤e.len∧e.len≤100000:=by
 unfold evF at h
 split at h
 ·cases h
 split at h
 ·cases h
 split at h
 ·rename_i q;exact absurd h q
 split at h
 ·rename_i q;exact absurd h q
 rename_i q1 q2 q3
 have h3:ruF e=0:=Decidable.byContradiction q2
 have h4:liF e=0:=Decidable.byContradiction q3
 have h5:(ist e.start && decide (0≤e.len∧e.len≤100000))=true:=by simpa using q1
 unfold liF at h4
 split at h4
 ·cases h4
 split at h4
 ·cases h4
 split at h4
 ·cases h4
 rename_i z1 z2 z3
 have y1:=of_decide_eq_false (by simpa [full] using z1:full e=false)
 have y2:(e.more.all ist && e.nots.all ist && e.chg.all chB)=true:=by revert z2;cases (e.more.all ist && e.nots.all ist && e.chg.all chB) <;> simp
 have y3:(risB e.more && risB e.nots && criB e.chg)=true:=by revert z3;cases (risB e.more && risB e.nots && criB e.chg) <;> simp
 rw [Bool.and_eq_true,Bool.and_eq_true] at y2 y3
 rw [Bool.and_eq_true] at h5
 have h6:=of_decide_eq_true h5.2
 exact ⟨⟨y3.1.2,by omega,by omega⟩,h3,h5.1,⟨y2.1.1,y2.1.2,y3.1.1⟩,by omega,h6.1,h6.2⟩
theorem strB_ends {fr t:Int} (h:strB fr t=true):(1≤fr∧t≤157785119)∧fr≤t∧t - fr≤1000000:=by
 unfold strB ist at h
 simp at h
 omega
end Go.Proofs.YtoncfgfjdlgfcaaGreatDoor
namespace Go.Proofs.YtoncfgfjdlgfcaaGreatDoor
open Go.RowKit Cal Txt
def stL (e:Evt) (fr t:Int):List Int:=if e.rep=true then (dyL e fr t).map (tmd e.start) else [e.start]
theorem stL_len {e:Evt} {fr t:Int} (h:evF e=0):(stL e fr t).length≤200000:=by
 unfold stL
 split
 ·rename_i hr
  rw [List.length_map]
  have h2:=(evF_lens h).2.1
  unfold ruF at h2
  rw [if_pos hr] at h2
  exact btL_len (sf_ev h2 (evF_lens h).2.2.1) _ _
 ·simp
theorem ofStart_any (e:Evt) (s:Evs) (fr t:Int) (w:World) (hv:EvB w e s) (hT:Tab w) (h:evF e=0) :
 Calls Tryz.prog 191 #[.agg (ecells e s),.int .i64 fr,.int .i64 t] w (OfA w.heap.size w (stL e fr t)):=by
 unfold stL
 rcases hr:e.rep with _ | _
 ·rw [if_neg (by decide)]
  exact ofStart_once e s fr t w hr
 ·rw [if_pos rfl]
  have h2:=(evF_lens h).2.1
  unfold ruF at h2
  rw [if_pos hr] at h2
  exact ofStart_rep e s fr t w hv hT hr h2 (evF_lens h).2.2.1
def isS (e:Evt) (x:Int):Prop:=if e.rep=true then ∃ n,n∈DAYS e.rule (dyo e.start)∧x=tmd e.start n else x=e.start
theorem stL_mem {e:Evt} {fr t x:Int} (h:evF e=0) (hf:ist fr=true) (ht:ist t=true) (h1:fr≤x) (h2:x≤t):x∈stL e fr t↔isS e x:=by
 unfold stL isS
 split
 ·rename_i hr
  have hs:=(evF_lens h).2.2.1
  have h3:=(evF_lens h).2.1
  unfold ruF at h3
  rw [if_pos hr] at h3
  have s0:=sf_ev h3 hs
  unfold dyL
  rw [btL_eq s0,List.mem_map]
  constructor
  ·rintro ⟨n,hn,rfl⟩
   exact ⟨n,(List.mem_filter.1 hn).1,rfl⟩
  ·rintro ⟨n,hn,rfl⟩
   refine ⟨n,List.mem_filter.2 ⟨hn,?_⟩,rfl⟩
   have e1:=(dyo_ok hs).1
   have e2:=(dyo_ok hf).1
   have e3:=(dyo_ok ht).1
   unfold tmd at h1 h2
   rw [e1] at h1 h2
   rw [e2,e3]
   simp only [decide_eq_true_eq]
   omega
 ·simp
end Go.Proofs.YtoncfgfjdlgfcaaGreatDoor
namespace Go.Proofs.YtoncfgfjdlgfcaaGreatDoor
open Go.RowKit Cal Txt
def EOwn (W:World) (b:Nat) (e:Evt) (s:Evs):Prop:=EBox W b e s∧∀ o,W.frozen? ⟨b,o,none⟩=false
theorem EOwn.new (W:World) (e:Evt) (s:Evs) (t:TypeId):EOwn (W.alloc (.cells (ecells e s) t)) W.heap.size e s:=⟨EBox.new W e s t,fun o=>by simp⟩
theorem EOwn.on {W W':World} {b:Nat} {e:Evt} {s:Evs} (h:EOwn W b e s) (q:Below W.heap.size W W'):EOwn W' b e s:=
 ⟨h.1.on q,fun o=>(q.frozen (p:=⟨b,o,none⟩) h.1.lt).trans (h.2 o)⟩
theorem EOwn.rep {W:World} {b:Nat} {e:Evt} {s:Evs} (h:EOwn W b e s) (r:Bool):EOwn (W.setCell ⟨b,4,none⟩ (.bool r)) b { e with rep:=r } s:=by
 obtain ⟨⟨⟨a0,a1,a2,a3,a4⟩,⟨b0,b1,b2,b3,b4,b5,b6,b7⟩,c0,c1,c2,c3⟩,hf⟩:=h
 have O:∀ (k:Nat) (v:Value),¬ 4=k→W.cell? ⟨b,k,none⟩=some v→(W.setCell ⟨b,4,none⟩ (.bool r)).cell? ⟨b,k,none⟩=some v:=fun k v q z=>(World.cell?_setCell_other _ _ _ _ (fun e=>q (by simpa using congrArg Addr.off e))).trans z
 exact ⟨⟨⟨O _ _ (by decide) a0,O _ _ (by decide) a1,O _ _ (by decide) a2,O _ _ (by decide) a3,World.cell?_setCell_same _ _ _ a4⟩,⟨O _ _ (by decide) b0,O _ _ (by decide) b1,O _ _ (by decide) b2,O _ _ (by decide) b3,O _ _ (by decide) b4,O _ _ (by decide) b5,O _ _ (by decide) b6,O _ _ (by decide) b7⟩,O _ _ (by decide) c0,O _ _ (by decide) c1,O _ _ (by decide) c2,O _ _ (by decide) c3⟩,fun o=>by rw [World.frozen?_setCell];exact hf o⟩
theorem EOwn.more {W:World} {b:Nat} {e:Evt} {s:Evs} (h:EOwn W b e s) (l:List Int) (u:Value):EOwn (W.setCell ⟨b,13,none⟩ u) b { e with more:=l } { s with vo:=u }:=by
 obtain ⟨⟨⟨a0,a1,a2,a3,a4⟩,⟨b0,b1,b2,b3,b4,b5,b6,b7⟩,c0,c1,c2,c3⟩,hf⟩:=h
 have O:∀ (k:Nat) (v:Value),¬ 13=k→W.cell? ⟨b,k,none⟩=some v→(W.setCell ⟨b,13,none⟩ u).cell? ⟨b,k,none⟩=some v:=fun k v q z=>(World.cell?_setCell_other _ _ _ _ (fun e=>q (by simpa using congrArg Addr.off e))).trans z
 exact ⟨⟨⟨O _ _ (by decide) a0,O _ _ (by decide) a1,O _ _ (by decide) a2,O _ _ (by decide) a3,O _ _ (by decide) a4⟩,⟨O _ _ (by decide) b0,O _ _ (by decide) b1,O _ _ (by decide) b2,O _ _ (by decide) b3,O _ _ (by decide) b4,O _ _ (by decide) b5,O _ _ (by decide) b6,O _ _ (by decide) b7⟩,World.cell?_setCell_same _ _ _ c0,O _ _ (by decide) c1,O _ _ (by decide) c2,O _ _ (by decide) c3⟩,fun o=>by rw [World.frozen?_setCell];exact hf o⟩
theorem nil_int (w:World):Ints w (.slice none 0 0) []:=⟨none,0,rfl,Or.inl rfl⟩
theorem nil_nth (w:World):Nths w (.slice none 0 0) []:=⟨none,0,rfl,Or.inl rfl⟩
theorem EBox.range {W:World} {b:Nat} {e:Evt} {s:Evs} (h:EBox W b e s):W.rangeAt b 0 (ecells e s).toList:=fun j v hv=>by
 obtain ⟨⟨a0,a1,a2,a3,a4⟩,⟨b0,b1,b2,b3,b4,b5,b6,b7⟩,c0,c1,c2,c3⟩:=h
 have hj:j<17:=(List.getElem?_eq_some_iff.1 hv).1
 rcases (by omega:j=0∨j=1∨j=2∨j=3∨j=4∨j=5∨j=6∨j=7∨j=8∨j=9∨j=10∨j=11∨j=12∨j=13∨j=14∨j=15∨j=16) with rfl | rfl | rfl | rfl | rfl | rfl | rfl | rfl | rfl | rfl | rfl | rfl | rfl | rfl | rfl | rfl | rfl
 ·exact a0.trans hv
 ·exact a1.trans hv
 ·exact a2.trans hv
 ·exact a3.trans hv
 ·exact a4.trans hv
 ·exact b0.trans hv
 ·exact b1.trans hv
 ·exact b2.trans hv
 ·exact b3.trans hv
 ·exact b4.trans hv
 ·exact b5.trans hv
 ·exact b6.trans hv
 ·exact b7.trans hv
 ·exact c0.trans hv
 ·exact c1.trans hv
 ·exact c2.trans hv
 ·exact c3.trans hv
theorem EBox.of_range {W:World} {b:Nat} {e:Evt} {s:Evs} (h:W.rangeAt b 0 (ecells e s).toList):EBox W b e s:=
 ⟨⟨h 0 _ rfl,h 1 _ rfl,h 2 _ rfl,h 3 _ rfl,h 4 _ rfl⟩,⟨h 5 _ rfl,h 6 _ rfl,h 7 _ rfl,h 8 _ rfl,h 9 _ rfl,h 10 _ rfl,h 11 _ rfl,h 12 _ rfl⟩,h 13 _ rfl,h 14 _ rfl,h 15 _ rfl,h 16 _ rfl⟩
theorem there_newC (W:World) (C:Array Value) (t:TypeId):(W.alloc (.cells C t)).there W.heap.size 0 C.size:=fun j hj=>by
 have e:=heap_alloc_new W (.cells C t)
 refine ⟨?_,?_⟩
 ·simp only [World.cell?,e]
  simp [hj]
 ·simp only [World.frozen?,e]
  simp
theorem ev_load {ops:Array Oper} {rest:List Oper} {op:Oper} {a:Act} {w:World} {Q:Exit→Act→World→Prop} (hgd:op.guard=none) (x:Operand) (ho:op.op=.load 33 x)
 (b:Nat) (e:Evt) (s:Evs) (hx:a.eval x=.pointer (some ⟨b,0,none⟩)) (hE:EBox w b e s) (h:wpList Tryz.prog ops Q rest (a.put op.dst (.agg (ecells e s))) w):wpList Tryz.prog ops Q (op :: rest) a w:=
 wpList_load_mid hgd 33 x ho b 0 hx (ecells e s).toList _ hE.range Tryz.underlying33 rfl (by kernel_rfl) h
theorem ev_store {ops:Array Oper} {rest:List Oper} {op:Oper} {a:Act} {W:World} {Q:Exit→Act→World→Prop} (hgd:op.guard=none) (x y:Operand) (ho:op.op=.store 33 x y)
 (b:Nat) (C:Array Value) (t:TypeId) (hC:C.size=17) (hb:W.heap.size=b) (e:Evt) (s:Evs) (hs:(ecells e s).all (·.oneCell')=true) (hx:a.eval x=.pointer (some ⟨b,0,none⟩)) (hy:a.eval y=.agg (ecells e s))
 (h:∀ W',EOwn W' b e s→Below W.heap.size W W'→wpList Tryz.prog ops Q rest (a.put op.dst undef) W'):wpList Tryz.prog ops Q (op :: rest) a (W.alloc (.cells C t)):=by
 subst hb
 have ht:(W.alloc (.cells C t)).there W.heap.size 0 (ecells e s).size:=by have:=there_newC W C t;rw [hC] at this;exact this
 refine wpList_store_mid hgd 33 x y ho W.heap.size 0 (ecells e s) hx hy ht (by kernel_rfl) hs (h _ ⟨EBox.of_range (World.rangeAt_setCells_same _ _ _ _ ht),fun o=>?_⟩ ?_)
 ·rw [World.frozen?_setCells]
  simp only [World.frozen?,heap_alloc_new W (.cells C t)]
  simp
 ·exact ((Below.refl _ _).alloc (Nat.le_refl _) _).trans (blw_cells (Nat.le_refl _) _ _ _)
end Go.Proofs.YtoncfgfjdlgfcaaGreatDoor
