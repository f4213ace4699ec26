/-
  Texts of our own that serve the card of this claim, joined into one.
-/
import Derived.Test.YtcadomjkjoiakaaGreatDoorRG
import Derived.Test.YtcadomjkjoiakaaGreatDoorQW
import Derived.Test.YtcadomjkjoiakaaGreatDoorQJ
namespace Go.Proofs.YtcadomjkjoiakaaGreatDoor
open Go.RowKit Go Cal Txt Ln Cb
abbrev rcells (e:Evt) (s:Evs) (nx:Nat):Array Value:=#[.string e.name,.string e.text,.int .i64 e.start,.int .i64 e.len,.bool e.rep,.int .i64 e.rule.freq,.int .i64 e.rule.every,.int .i64 e.rule.count,.int .i64 e.rule.till,s.vm,s.vd,s.vw,s.vp,s.vo,s.vn,s.vc,s.va,.int .i64 nx]
def RBc (W:World) (b:Nat) (C:Array Value):Prop:=W.heap[b]?=some (.cells C 70 (0,0))
theorem RBc.lt {W:World} {b:Nat} {C:Array Value} (h:RBc W b C):b<W.heap.size:=(Array.getElem?_eq_some_iff.1 h).1
theorem RBc.put {W:World} {b:Nat} {C C':Array Value} (h:RBc W b C) (o:Nat) (x:Value) (e:C.setIfInBounds o x=C'):RBc (W.setCell ⟨b,o,none⟩ x) b C':=by
 unfold RBc at h ⊢
 rw [← e]
 simp [World.setCell,Array.getElem?_modify,h]
theorem RBc.cell {W:World} {b:Nat} {C:Array Value} (h:RBc W b C) (o:Nat) (v:Value) (hv:C[o]?=some v):W.cell? ⟨b,o,none⟩=some v:=by
 unfold RBc at h
 simp [World.cell?,h,hv]
theorem RBc.fz {W:World} {b:Nat} {C:Array Value} (h:RBc W b C) (o:Nat):W.frozen? ⟨b,o,none⟩=false:=by
 unfold RBc at h
 simp [World.frozen?,h]
theorem RBc.kps {S:Nat→Prop} {W W':World} {b:Nat} {C:Array Value} (h:RBc W b C) (q:Kps S W W') (hb:¬ S b):RBc W' b C:=(q.block b h.lt hb).trans h
theorem own_ne {W:World} {b B k n:Nat} {t t':TypeId} {v:Value} {xs:List Value} {C:Array Value} {f:Nat × Nat} (h:W.ownsRow B t k v n xs) (hb:W.heap[b]?=some (.cells C t' f)) (ht:t≠t'):v.ownBlock≠some b:=fun e=>by
 rcases h.2 with ⟨q,_⟩ | ⟨g,cap,cur,q,_,hg,_⟩
 ·rw [q] at e;cases e
 ·rw [q] at e
  have:g=b:=by simpa [Value.ownBlock] using e
  subst this
  rw [hb] at hg
  injection hg with hg
  injection hg with _ h2 _
  exact ht h2.symm
theorem own_own {W:World} {B B' k k' n n':Nat} {t t':TypeId} {v v':Value} {xs xs':List Value} (h:W.ownsRow B t k v n xs) (h':W.ownsRow B' t' k' v' n' xs') (ht:t≠t'):∀ g,v.ownBlock=some g→v'.ownBlock≠some g:=fun g hg e=>by
 rcases h'.2 with ⟨q,_⟩ | ⟨g',cap,cur,q,_,hb,_⟩
 ·rw [q] at e;cases e
 ·rw [q] at e
  have:g'=g:=by simpa [Value.ownBlock] using e
  subst this
  exact own_ne h hb ht hg
theorem own_keep {W W':World} {B k n:Nat} {t:TypeId} {v:Value} {xs:List Value} {S:Nat→Prop} (h:W.ownsRow B t k v n xs) (q:Kps S W W') (hS:∀ g,v.ownBlock=some g→¬ S g):W'.ownsRow B t k v n xs:=by
 refine ⟨h.1,?_⟩
 rcases h.2 with a | ⟨g,cap,cur,hv,hb,hg,r⟩
 ·exact Or.inl a
 ·exact Or.inr ⟨g,cap,cur,hv,hb,(q.block g (Array.getElem?_eq_some_iff.1 hg).1 (hS g (by rw [hv];rfl))).trans hg,r⟩
def IntO (W:World) (S:Nat→Prop) (v:Value) (l:List Int):Prop:=Ints W v l∧(l=[]∨∀ a n c,v=.slice (some a) n c→¬ S a.block)
def NthO (W:World) (S:Nat→Prop) (v:Value) (l:List (Int × Int)):Prop:=Nths W v l∧(l=[]∨∀ a n c,v=.slice (some a) n c→¬ S a.block)
theorem IntO.on {W W':World} {S S':Nat→Prop} {v:Value} {l:List Int} (h:IntO W S v l) (g:Gr S W S') (q:Kps S W W'):IntO W' S' v l:=by
 obtain ⟨⟨a,cap,e,hc⟩,ho⟩:=h
 rcases hc with hc | ⟨b,off,ea,hc⟩
 ·exact ⟨⟨a,cap,e,Or.inl hc⟩,Or.inl hc⟩
 ·rcases ho with ho | ho
  ·exact ⟨⟨a,cap,e,Or.inl ho⟩,Or.inl ho⟩
  ·have hS:¬ S b:=ho ⟨b,off,none⟩ _ _ (by rw [e,ea])
   by_cases h0:l=[]
   ·exact ⟨⟨a,cap,e,Or.inl h0⟩,Or.inl h0⟩
   ·have hl:0<l.length:=List.length_pos_iff.2 h0
    have bl:=ecell_in (hc 0 hl)
    refine ⟨⟨a,cap,e,Or.inr ⟨b,off,ea,fun i hi=>(World.cell?_of_block (q.block b bl hS)).trans (hc i hi)⟩⟩,Or.inr (fun a' n c e' z=>?_)⟩
    have eb:a'.block=b:=by rw [e,ea] at e';injection e' with e1 _ _;injection e1 with e1;rw [← e1]
    rw [eb] at z
    exact (g b z).elim hS (fun u=>by omega)
theorem NthO.on {W W':World} {S S':Nat→Prop} {v:Value} {l:List (Int × Int)} (h:NthO W S v l) (g:Gr S W S') (q:Kps S W W'):NthO W' S' v l:=by
 obtain ⟨⟨a,cap,e,hc⟩,ho⟩:=h
 rcases hc with hc | ⟨b,off,ea,hc⟩
 ·exact ⟨⟨a,cap,e,Or.inl hc⟩,Or.inl hc⟩
 ·rcases ho with ho | ho
  ·exact ⟨⟨a,cap,e,Or.inl ho⟩,Or.inl ho⟩
  ·have hS:¬ S b:=ho ⟨b,off,none⟩ _ _ (by rw [e,ea])
   by_cases h0:l=[]
   ·exact ⟨⟨a,cap,e,Or.inl h0⟩,Or.inl h0⟩
   ·have hl:0<l.length:=List.length_pos_iff.2 h0
    have bl:=ecell_in (hc 0 hl).1
    refine ⟨⟨a,cap,e,Or.inr ⟨b,off,ea,fun i hi=>⟨(World.cell?_of_block (q.block b bl hS)).trans (hc i hi).1,(World.cell?_of_block (q.block b bl hS)).trans (hc i hi).2⟩⟩⟩,Or.inr (fun a' n c e' z=>?_)⟩
    have eb:a'.block=b:=by rw [e,ea] at e';injection e' with e1 _ _;injection e1 with e1;rw [← e1]
    rw [eb] at z
    exact (g b z).elim hS (fun u=>by omega)
def RuO (W:World) (S:Nat→Prop) (r:Rl) (s:Evs):Prop:=IntO W S s.vm r.months∧IntO W S s.vd r.days∧NthO W S s.vw r.weeks∧IntO W S s.vp r.pick
theorem RuO.on {W W':World} {S S':Nat→Prop} {r:Rl} {s:Evs} (h:RuO W S r s) (g:Gr S W S') (q:Kps S W W'):RuO W' S' r s:=⟨h.1.on g q,h.2.1.on g q,h.2.2.1.on g q,h.2.2.2.on g q⟩
structure RdJ (b n1:Nat) (e:Evt) (nx:Nat) (s:Evs) (S:Nat→Prop) (W:World):Prop where
 rb:RBc W b (rcells e s nx)
 r5:W.ownsRow n1 3 1 s.vo e.more.length (e.more.flatMap eI)
 r6:W.ownsRow n1 3 1 s.vn e.nots.length (e.nots.flatMap eI)
 r7:W.ownsRow n1 97 2 s.vc e.chg.length (e.chg.flatMap eC)
 r8:W.ownsRow n1 50 4 s.va e.alm.length (e.alm.flatMap eA)
 d:∀ g,s.vo.ownBlock=some g→s.vn.ownBlock≠some g
 ru:RuO W S e.rule s
 hs:∀ k,S k↔(k=b∨s.vo.ownBlock=some k∨s.vn.ownBlock=some k∨s.vc.ownBlock=some k∨s.va.ownBlock=some k)
 hn:n1≤b
def RlN (e e':Evt) (s s':Evs) (n:Nat):Prop:=(s'.vm=s.vm∧s'.vd=s.vd∧s'.vw=s.vw∧s'.vp=s.vp∧e'.rule=e.rule)∨(Far n s'.vm∧Far n s'.vd∧Far n s'.vw∧Far n s'.vp)
theorem RlN.le {e e':Evt} {s s':Evs} {n m:Nat} (h:RlN e e' s s' n) (k:m≤n):RlN e e' s s' m:=h.imp id (fun ⟨a,b,c,d⟩=>⟨a.le k,b.le k,c.le k,d.le k⟩)
def RdI (b n1:Nat) (e0:Evt) (s0:Evs) (n:Nat) (st:Evt × Nat) (S:Nat→Prop) (W:World):Prop:=∃ s,RdJ b n1 st.1 st.2 s S W∧RlN e0 st.1 s0 s n
theorem RdJ.lt {b n1:Nat} {e:Evt} {nx:Nat} {s:Evs} {S:Nat→Prop} {W:World} (h:RdJ b n1 e nx s S W) (k:Nat) (hk:S k):n1≤k∧k<W.heap.size:=by
 rcases (h.hs k).1 hk with rfl | z | z | z | z
 ·exact ⟨h.hn,h.rb.lt⟩
 ·exact h.r5.lt k z
 ·exact h.r6.lt k z
 ·exact h.r7.lt k z
 ·exact h.r8.lt k z
theorem RdJ.ne {b n1:Nat} {e:Evt} {nx:Nat} {s:Evs} {S:Nat→Prop} {W:World} (h:RdJ b n1 e nx s S W):s.vo.ownBlock≠some b∧s.vn.ownBlock≠some b∧s.vc.ownBlock≠some b∧s.va.ownBlock≠some b:=
 ⟨own_ne h.r5 h.rb (by decide),own_ne h.r6 h.rb (by decide),own_ne h.r7 h.rb (by decide),own_ne h.r8 h.rb (by decide)⟩
theorem own_blk {W W':World} {B k n:Nat} {t:TypeId} {v:Value} {xs:List Value} (h:W.ownsRow B t k v n xs) (same:∀ g,v.ownBlock=some g→W'.heap[g]?=W.heap[g]?):W'.ownsRow B t k v n xs:=by
 refine ⟨h.1,?_⟩
 rcases h.2 with a | ⟨g,cap,cur,hv,hb,hg,r⟩
 ·exact Or.inl a
 ·exact Or.inr ⟨g,cap,cur,hv,hb,(same g (by rw [hv];rfl)).trans hg,r⟩
theorem RdJ.keep {b n1:Nat} {e:Evt} {nx:Nat} {s:Evs} {S:Nat→Prop} {W W':World} (h:RdJ b n1 e nx s S W) (q:Below W.heap.size W W'):RdJ b n1 e nx s S W':=
 ⟨(q.block b h.rb.lt).trans h.rb,own_below h.r5 q,own_below h.r6 q,own_below h.r7 q,own_below h.r8 q,h.d,h.ru.on (Gr.refl _ _) (Kps.of_below q),h.hs,h.hn⟩
theorem RdJ.put {b n1:Nat} {e e':Evt} {nx nx':Nat} {s:Evs} {S:Nat→Prop} {W:World} (h:RdJ b n1 e nx s S W) (o:Nat) (x:Value) (he:(rcells e s nx).setIfInBounds o x=rcells e' s nx') (hl:e'.more=e.more∧e'.nots=e.nots∧e'.chg=e.chg∧e'.alm=e.alm∧e'.rule=e.rule) :
 RdJ b n1 e' nx' s S (W.setCell ⟨b,o,none⟩ x)∧Kps S W (W.setCell ⟨b,o,none⟩ x):=by
 have k:Kps (fun k=>k=b) W (W.setCell ⟨b,o,none⟩ x):=Kps.set _ rfl
 have hS:S b:=(h.hs b).2 (Or.inl rfl)
 have kS:Kps S W (W.setCell ⟨b,o,none⟩ x):=k.mono (fun j e=>by rw [e];exact hS)
 obtain ⟨n5,n6,n7,n8⟩:=h.ne
 obtain ⟨l1,l2,l3,l4,l5⟩:=hl
 refine ⟨⟨h.rb.put o x he,?_,?_,?_,?_,h.d,?_,h.hs,h.hn⟩,kS⟩
 ·rw [l1];exact own_keep h.r5 k (fun g hg z=>n5 (by rw [hg,z]))
 ·rw [l2];exact own_keep h.r6 k (fun g hg z=>n6 (by rw [hg,z]))
 ·rw [l3];exact own_keep h.r7 k (fun g hg z=>n7 (by rw [hg,z]))
 ·rw [l4];exact own_keep h.r8 k (fun g hg z=>n8 (by rw [hg,z]))
 ·rw [l5];exact h.ru.on (Gr.refl _ _) kS
theorem RdJ.row_5 {b n1:Nat} {e:Evt} {nx:Nat} {s:Evs} {S:Nat→Prop} {W W1:World} {v':Value} {x:Int} (h:RdJ b n1 e nx s S W) (hw:W1.ownsRow n1 3 1 v' (e.more++[x]).length ((e.more++[x]).flatMap eI)) (ha:v'.ownBlock=s.vo.ownBlock∨∀ g,v'.ownBlock=some g→W.heap.size≤g) (hk:Kps (fun j=>s.vo.ownBlock=some j) W W1) :
 RBc W1 b (rcells e s nx)∧∃ S',Gr S W S'∧Kps S W (W1.setCell ⟨b,13,none⟩ v')∧RdI b n1 e s W.heap.size ({ e with more:=e.more++[x] },nx) S' (W1.setCell ⟨b,13,none⟩ v'):=by
 obtain ⟨n5,n6,n7,n8⟩:=h.ne
 have rb1:=h.rb.kps hk n5
 have nb:v'.ownBlock≠some b:=own_ne hw rb1 (by decide)
 have k2:Kps (fun k=>k=b) W1 (W1.setCell ⟨b,13,none⟩ v'):=Kps.set _ rfl
 have kS:Kps S W (W1.setCell ⟨b,13,none⟩ v'):=by
  have k1:Kps S W W1:=hk.mono (fun j z=>(h.hs j).2 (Or.inr (Or.inl z)))
  exact k1.trans (k2.mono (S1:=S) (fun j z=>(h.hs j).2 (Or.inl z))) (Gr.refl _ _)
 have g:Gr S W (fun k=>k=b∨v'.ownBlock=some k∨s.vn.ownBlock=some k∨s.vc.ownBlock=some k∨s.va.ownBlock=some k):=by
  rintro k (rfl | z | z | z | z)
  ·exact Or.inl ((h.hs _).2 (Or.inl rfl))
  ·rcases ha with y | y
   ·exact Or.inl ((h.hs _).2 (Or.inr (Or.inl (y ▸ z))))
   ·exact Or.inr (y k z)
  ·exact Or.inl ((h.hs _).2 (Or.inr (Or.inr (Or.inl z))))
  ·exact Or.inl ((h.hs _).2 (Or.inr (Or.inr (Or.inr (Or.inl z)))))
  ·exact Or.inl ((h.hs _).2 (Or.inr (Or.inr (Or.inr (Or.inr z)))))
 refine ⟨rb1,_,g,kS,{ s with vo:=v' },⟨rb1.put 13 v' rfl,?_,?_,?_,?_,?_,h.ru.on g kS,fun k=>Iff.rfl,h.hn⟩,Or.inl ⟨rfl,rfl,rfl,rfl,rfl⟩⟩
 ·exact own_keep hw k2 (fun g hg z=>nb (by rw [hg,z]))
 ·exact own_keep (own_keep h.r6 hk (fun g hg z=>h.d g z hg)) k2 (fun g hg z=>n6 (by rw [hg,z]))
 ·exact own_keep (own_keep h.r7 hk (fun g hg z=>own_own h.r7 h.r5 (by decide) g hg z)) k2 (fun g hg z=>n7 (by rw [hg,z]))
 ·exact own_keep (own_keep h.r8 hk (fun g hg z=>own_own h.r8 h.r5 (by decide) g hg z)) k2 (fun g hg z=>n8 (by rw [hg,z]))
 ·intro g hg hn
  rcases ha with y | y
  ·exact h.d g (y ▸ hg) hn
  ·have:=y g hg;have:=(h.r6.lt g hn).2;omega
theorem RdJ.row_6 {b n1:Nat} {e:Evt} {nx:Nat} {s:Evs} {S:Nat→Prop} {W W1:World} {v':Value} {x:Int} (h:RdJ b n1 e nx s S W) (hw:W1.ownsRow n1 3 1 v' (e.nots++[x]).length ((e.nots++[x]).flatMap eI)) (ha:v'.ownBlock=s.vn.ownBlock∨∀ g,v'.ownBlock=some g→W.heap.size≤g) (hk:Kps (fun j=>s.vn.ownBlock=some j) W W1) :
 RBc W1 b (rcells e s nx)∧∃ S',Gr S W S'∧Kps S W (W1.setCell ⟨b,14,none⟩ v')∧RdI b n1 e s W.heap.size ({ e with nots:=e.nots++[x] },nx) S' (W1.setCell ⟨b,14,none⟩ v'):=by
 obtain ⟨n5,n6,n7,n8⟩:=h.ne
 have rb1:=h.rb.kps hk n6
 have nb:v'.ownBlock≠some b:=own_ne hw rb1 (by decide)
 have k2:Kps (fun k=>k=b) W1 (W1.setCell ⟨b,14,none⟩ v'):=Kps.set _ rfl
 have kS:Kps S W (W1.setCell ⟨b,14,none⟩ v'):=by
  have k1:Kps S W W1:=hk.mono (fun j z=>(h.hs j).2 (Or.inr (Or.inr (Or.inl z))))
  exact k1.trans (k2.mono (S1:=S) (fun j z=>(h.hs j).2 (Or.inl z))) (Gr.refl _ _)
 have g:Gr S W (fun k=>k=b∨s.vo.ownBlock=some k∨v'.ownBlock=some k∨s.vc.ownBlock=some k∨s.va.ownBlock=some k):=by
  rintro k (rfl | z | z | z | z)
  ·exact Or.inl ((h.hs _).2 (Or.inl rfl))
  ·exact Or.inl ((h.hs _).2 (Or.inr (Or.inl z)))
  ·rcases ha with y | y
   ·exact Or.inl ((h.hs _).2 (Or.inr (Or.inr (Or.inl (y ▸ z)))))
   ·exact Or.inr (y k z)
  ·exact Or.inl ((h.hs _).2 (Or.inr (Or.inr (Or.inr (Or.inl z)))))
  ·exact Or.inl ((h.hs _).2 (Or.inr (Or.inr (Or.inr (Or.inr z)))))
 refine ⟨rb1,_,g,kS,{ s with vn:=v' },⟨rb1.put 14 v' rfl,?_,?_,?_,?_,?_,h.ru.on g kS,fun k=>Iff.rfl,h.hn⟩,Or.inl ⟨rfl,rfl,rfl,rfl,rfl⟩⟩
 ·exact own_keep (own_keep h.r5 hk (fun g hg z=>h.d g hg z)) k2 (fun g hg z=>n5 (by rw [hg,z]))
 ·exact own_keep hw k2 (fun g hg z=>nb (by rw [hg,z]))
 ·exact own_keep (own_keep h.r7 hk (fun g hg z=>own_own h.r7 h.r6 (by decide) g hg z)) k2 (fun g hg z=>n7 (by rw [hg,z]))
 ·exact own_keep (own_keep h.r8 hk (fun g hg z=>own_own h.r8 h.r6 (by decide) g hg z)) k2 (fun g hg z=>n8 (by rw [hg,z]))
 ·intro g hg hn
  rcases ha with y | y
  ·exact h.d g hg (y ▸ hn)
  ·have:=y g hn;have:=(h.r5.lt g hg).2;omega
theorem RdJ.row_7 {b n1:Nat} {e:Evt} {nx:Nat} {s:Evs} {S:Nat→Prop} {W W1:World} {v':Value} {x:Int × Int} (h:RdJ b n1 e nx s S W) (hw:W1.ownsRow n1 97 2 v' (e.chg++[x]).length ((e.chg++[x]).flatMap eC)) (ha:v'.ownBlock=s.vc.ownBlock∨∀ g,v'.ownBlock=some g→W.heap.size≤g) (hk:Kps (fun j=>s.vc.ownBlock=some j) W W1) :
 RBc W1 b (rcells e s nx)∧∃ S',Gr S W S'∧Kps S W (W1.setCell ⟨b,15,none⟩ v')∧RdI b n1 e s W.heap.size ({ e with chg:=e.chg++[x] },nx) S' (W1.setCell ⟨b,15,none⟩ v'):=by
 obtain ⟨n5,n6,n7,n8⟩:=h.ne
 have rb1:=h.rb.kps hk n7
 have nb:v'.ownBlock≠some b:=own_ne hw rb1 (by decide)
 have k2:Kps (fun k=>k=b) W1 (W1.setCell ⟨b,15,none⟩ v'):=Kps.set _ rfl
 have kS:Kps S W (W1.setCell ⟨b,15,none⟩ v'):=by
  have k1:Kps S W W1:=hk.mono (fun j z=>(h.hs j).2 (Or.inr (Or.inr (Or.inr (Or.inl z)))))
  exact k1.trans (k2.mono (S1:=S) (fun j z=>(h.hs j).2 (Or.inl z))) (Gr.refl _ _)
 have g:Gr S W (fun k=>k=b∨s.vo.ownBlock=some k∨s.vn.ownBlock=some k∨v'.ownBlock=some k∨s.va.ownBlock=some k):=by
  rintro k (rfl | z | z | z | z)
  ·exact Or.inl ((h.hs _).2 (Or.inl rfl))
  ·exact Or.inl ((h.hs _).2 (Or.inr (Or.inl z)))
  ·exact Or.inl ((h.hs _).2 (Or.inr (Or.inr (Or.inl z))))
  ·rcases ha with y | y
   ·exact Or.inl ((h.hs _).2 (Or.inr (Or.inr (Or.inr (Or.inl (y ▸ z))))))
   ·exact Or.inr (y k z)
  ·exact Or.inl ((h.hs _).2 (Or.inr (Or.inr (Or.inr (Or.inr z)))))
 refine ⟨rb1,_,g,kS,{ s with vc:=v' },⟨rb1.put 15 v' rfl,?_,?_,?_,?_,?_,h.ru.on g kS,fun k=>Iff.rfl,h.hn⟩,Or.inl ⟨rfl,rfl,rfl,rfl,rfl⟩⟩
 ·exact own_keep (own_keep h.r5 hk (fun g hg z=>own_own h.r5 h.r7 (by decide) g hg z)) k2 (fun g hg z=>n5 (by rw [hg,z]))
 ·exact own_keep (own_keep h.r6 hk (fun g hg z=>own_own h.r6 h.r7 (by decide) g hg z)) k2 (fun g hg z=>n6 (by rw [hg,z]))
 ·exact own_keep hw k2 (fun g hg z=>nb (by rw [hg,z]))
 ·exact own_keep (own_keep h.r8 hk (fun g hg z=>own_own h.r8 h.r7 (by decide) g hg z)) k2 (fun g hg z=>n8 (by rw [hg,z]))
 ·exact h.d
theorem RdJ.row_8 {b n1:Nat} {e:Evt} {nx:Nat} {s:Evs} {S:Nat→Prop} {W W1:World} {v':Value} {x:Int × Bool × Int × Int} (h:RdJ b n1 e nx s S W) (hw:W1.ownsRow n1 50 4 v' (e.alm++[x]).length ((e.alm++[x]).flatMap eA)) (ha:v'.ownBlock=s.va.ownBlock∨∀ g,v'.ownBlock=some g→W.heap.size≤g) (hk:Kps (fun j=>s.va.ownBlock=some j) W W1) :
 RBc W1 b (rcells e s nx)∧∃ S',Gr S W S'∧Kps S W (W1.setCell ⟨b,16,none⟩ v')∧RdI b n1 e s W.heap.size ({ e with alm:=e.alm++[x] },nx) S' (W1.setCell ⟨b,16,none⟩ v'):=by
 obtain ⟨n5,n6,n7,n8⟩:=h.ne
 have rb1:=h.rb.kps hk n8
 have nb:v'.ownBlock≠some b:=own_ne hw rb1 (by decide)
 have k2:Kps (fun k=>k=b) W1 (W1.setCell ⟨b,16,none⟩ v'):=Kps.set _ rfl
 have kS:Kps S W (W1.setCell ⟨b,16,none⟩ v'):=by
  have k1:Kps S W W1:=hk.mono (fun j z=>(h.hs j).2 (Or.inr (Or.inr (Or.inr (Or.inr z)))))
  exact k1.trans (k2.mono (S1:=S) (fun j z=>(h.hs j).2 (Or.inl z))) (Gr.refl _ _)
 have g:Gr S W (fun k=>k=b∨s.vo.ownBlock=some k∨s.vn.ownBlock=some k∨s.vc.ownBlock=some k∨v'.ownBlock=some k):=by
  rintro k (rfl | z | z | z | z)
  ·exact Or.inl ((h.hs _).2 (Or.inl rfl))
  ·exact Or.inl ((h.hs _).2 (Or.inr (Or.inl z)))
  ·exact Or.inl ((h.hs _).2 (Or.inr (Or.inr (Or.inl z))))
  ·exact Or.inl ((h.hs _).2 (Or.inr (Or.inr (Or.inr (Or.inl z)))))
  ·rcases ha with y | y
   ·exact Or.inl ((h.hs _).2 (Or.inr (Or.inr (Or.inr (Or.inr (y ▸ z))))))
   ·exact Or.inr (y k z)
 refine ⟨rb1,_,g,kS,{ s with va:=v' },⟨rb1.put 16 v' rfl,?_,?_,?_,?_,?_,h.ru.on g kS,fun k=>Iff.rfl,h.hn⟩,Or.inl ⟨rfl,rfl,rfl,rfl,rfl⟩⟩
 ·exact own_keep (own_keep h.r5 hk (fun g hg z=>own_own h.r5 h.r8 (by decide) g hg z)) k2 (fun g hg z=>n5 (by rw [hg,z]))
 ·exact own_keep (own_keep h.r6 hk (fun g hg z=>own_own h.r6 h.r8 (by decide) g hg z)) k2 (fun g hg z=>n6 (by rw [hg,z]))
 ·exact own_keep (own_keep h.r7 hk (fun g hg z=>own_own h.r7 h.r8 (by decide) g hg z)) k2 (fun g hg z=>n7 (by rw [hg,z]))
 ·exact own_keep hw k2 (fun g hg z=>nb (by rw [hg,z]))
 ·exact h.d
end Go.Proofs.YtcadomjkjoiakaaGreatDoor
namespace Go.Proofs.YtcadomjkjoiakaaGreatDoor
open Go.RowKit Go Cal Txt Ln Cb
def RdA (k:Nat) (e:Evt) (s:Evs) (nx b n1:Nat) (S:Nat→Prop) (l:List UInt8) (w:World) (x:Ending) (w':World):Prop:=
 (∃ e' S',rd k e l=some e'∧x=.returned (.bool true)∧Gr S w S'∧Kps S w w'∧RdI b n1 e s w.heap.size (e',nx) S' w')∨(rd k e l=none∧x=.returned (.bool false)∧Kps S w w')
theorem RdJ.set {b n1:Nat} {e:Evt} {nx:Nat} {s:Evs} {S:Nat→Prop} {W W1:World} (h:RdJ b n1 e nx s S W) (hb:Below W.heap.size W W1) (o:Nat) (x:Value):Kps S W (W1.setCell ⟨b,o,none⟩ x):=
 (Kps.of_below hb).trans (Kps.set (S:=S) (p:=⟨b,o,none⟩) x ((h.hs b).2 (Or.inl rfl))) (Gr.refl _ _)
theorem kps_cells (b:Nat):∀ (vs:List Value) (o:Nat) (W:World),Kps (fun k=>k=b) W (W.setCells b o vs)
 | [],_,_=>Kps.refl _ _
 | v :: r,o,_=>(Kps.set (S:=fun k=>k=b) (p:=⟨b,o,none⟩) v rfl).trans (kps_cells b r (o + 1) _) (Gr.refl _ _)
theorem RBc.there {W:World} {b:Nat} {C:Array Value} (h:RBc W b C) (o n:Nat) (hn:o + n≤C.size):W.there b o n:=fun j hj=>by
 unfold RBc at h
 refine ⟨?_,?_⟩
 ·simp only [World.cell?,h]
  simp
  omega
 ·simp [World.frozen?,h]
theorem put8 {W:World} {b:Nat} {x0 x1 x2 x3 x4 x5 x6 x7 x8 x9 x10 x11 x12 x13 x14 x15 x16 x17:Value} (y5 y6 y7 y8 y9 y10 y11 y12:Value) (h:RBc W b #[x0,x1,x2,x3,x4,x5,x6,x7,x8,x9,x10,x11,x12,x13,x14,x15,x16,x17]):RBc (W.setCells b 5 [y5,y6,y7,y8,y9,y10,y11,y12]) b #[x0,x1,x2,x3,x4,y5,y6,y7,y8,y9,y10,y11,y12,x13,x14,x15,x16,x17]:=by
 have h5:=RBc.put (C':=#[x0,x1,x2,x3,x4,y5,x6,x7,x8,x9,x10,x11,x12,x13,x14,x15,x16,x17]) h 5 y5 rfl
 have h6:=RBc.put (C':=#[x0,x1,x2,x3,x4,y5,y6,x7,x8,x9,x10,x11,x12,x13,x14,x15,x16,x17]) h5 6 y6 rfl
 have h7:=RBc.put (C':=#[x0,x1,x2,x3,x4,y5,y6,y7,x8,x9,x10,x11,x12,x13,x14,x15,x16,x17]) h6 7 y7 rfl
 have h8:=RBc.put (C':=#[x0,x1,x2,x3,x4,y5,y6,y7,y8,x9,x10,x11,x12,x13,x14,x15,x16,x17]) h7 8 y8 rfl
 have h9:=RBc.put (C':=#[x0,x1,x2,x3,x4,y5,y6,y7,y8,y9,x10,x11,x12,x13,x14,x15,x16,x17]) h8 9 y9 rfl
 have h10:=RBc.put (C':=#[x0,x1,x2,x3,x4,y5,y6,y7,y8,y9,y10,x11,x12,x13,x14,x15,x16,x17]) h9 10 y10 rfl
 have h11:=RBc.put (C':=#[x0,x1,x2,x3,x4,y5,y6,y7,y8,y9,y10,y11,x12,x13,x14,x15,x16,x17]) h10 11 y11 rfl
 have h12:=RBc.put (C':=#[x0,x1,x2,x3,x4,y5,y6,y7,y8,y9,y10,y11,y12,x13,x14,x15,x16,x17]) h11 12 y12 rfl
 exact h12
end Go.Proofs.YtcadomjkjoiakaaGreatDoor
namespace Go.Proofs.YtcadomjkjoiakaaGreatDoor
open Go.RowKit Go Cal Txt Ln Cb
set_option maxRecDepth 100000 in
set_option maxHeartbeats 1600000 in
theorem read_0 (e:Evt) (nx b n1:Nat) (s:Evs) (S:Nat→Prop) (val:ByteArray) (w:World) (h:RdJ b n1 e nx s S w)  :
 Calls Tryz.prog 81 #[.pointer (some ⟨b,0,none⟩),.string ⟨#[78,65,77,69]⟩,.string val] w (RdA 0 e s nx b n1 S val.data.toList w):=by
 obtain ⟨p1,p2⟩:=h.put 0 (.string val) (e':={ e with name:=val }) rfl ⟨rfl,rfl,rfl,rfl,rfl⟩
 have P1:=Lib.hid p1
 have P2:=Lib.hid p2
 have c0:=h.rb.cell 0 _ rfl
 have f0:=h.rb.fz 0
 have bl:=h.rb.lt
 clear h p1 p2
 go_enter Tryz.func81,Tryz.ntmps81
 go_wp2
 go_ret
 exact Or.inl ⟨_,S,rfl,rfl,Gr.refl _ _,P2.out,s,P1.out,Or.inl ⟨rfl,rfl,rfl,rfl,rfl⟩⟩
end Go.Proofs.YtcadomjkjoiakaaGreatDoor
namespace Go.Proofs.YtcadomjkjoiakaaGreatDoor
open Go.RowKit Go Cal Txt Ln Cb
set_option maxRecDepth 100000 in
set_option maxHeartbeats 1600000 in
theorem read_1 (e:Evt) (nx b n1:Nat) (s:Evs) (S:Nat→Prop) (val:ByteArray) (w:World) (h:RdJ b n1 e nx s S w) (hK:∀ W,Below n1 w W→KeepK W) (hs:val.size≤2000000) :
 Calls Tryz.prog 81 #[.pointer (some ⟨b,0,none⟩),.string ⟨#[84,69,88,84]⟩,.string val] w (RdA 1 e s nx b n1 S val.data.toList w):=by
 have K:=Lib.hid (text_op val w (hK w (Below.refl _ _)).mrk hs)
 have H:=Lib.hid h
 have bl:=h.rb.lt
 clear h hK
 go_enter Tryz.func81,Tryz.ntmps81
 go_wp2_with fail
 refine K.out.mono ?_
 rintro x0 w1 ⟨hb,hx⟩
 have J1:=H.out.keep hb
 have c0:=J1.rb.cell 1 _ rfl
 have f0:=J1.rb.fz 1
 have bl1:=J1.rb.lt
 have HB:=Lib.hid hb
 have HJ:=Lib.hid J1
 clear hb J1 K bl
 rcases hx with ⟨t,ht,rfl⟩ | ⟨ht,t,j,rfl⟩
 ·obtain ⟨p1,p2⟩:=HJ.out.put 1 (.string (tb t)) (e':={ e with text:=tb t }) rfl ⟨rfl,rfl,rfl,rfl,rfl⟩
  have Z:Hid (RdA 1 e s nx b n1 S val.data.toList w (.returned (.bool true)) (w1.setCell ⟨b,1,none⟩ (.string (tb t)))):=Lib.hid (Or.inl ⟨_,S,by rw [rd1,ht];rfl,rfl,Gr.refl _ _,H.out.set HB.out 1 _,s,p1,Or.inl ⟨rfl,rfl,rfl,rfl,rfl⟩⟩)
  clear p1 p2 ht HJ H HB
  go_wp2
  go_ret
  exact Z.out
 ·have Z:Hid (RdA 1 e s nx b n1 S val.data.toList w (.returned (.bool false)) (w1.setCell ⟨b,1,none⟩ (.string (tb t)))):=Lib.hid (Or.inr ⟨by rw [rd1,ht];rfl,rfl,H.out.set HB.out 1 _⟩)
  clear ht HJ H HB
  go_wp2
  go_ret
  exact Z.out
end Go.Proofs.YtcadomjkjoiakaaGreatDoor
namespace Go.Proofs.YtcadomjkjoiakaaGreatDoor
open Go.RowKit Go Cal Txt Ln Cb
set_option maxRecDepth 100000 in
set_option maxHeartbeats 1600000 in
theorem read_2 (e:Evt) (nx b n1:Nat) (s:Evs) (S:Nat→Prop) (val:ByteArray) (w:World) (h:RdJ b n1 e nx s S w) (hK:∀ W,Below n1 w W→KeepK W) :
 Calls Tryz.prog 81 #[.pointer (some ⟨b,0,none⟩),.string ⟨#[83,84,65,82,84]⟩,.string val] w (RdA 2 e s nx b n1 S val.data.toList w):=by
 have K:=Lib.hid (time_op val w (hK w (Below.refl _ _)).kp.tab)
 have H:=Lib.hid h
 have bl:=h.rb.lt
 clear h hK
 go_enter Tryz.func81,Tryz.ntmps81
 go_wp2_with fail
 refine K.out.mono ?_
 rintro x0 w1 ⟨hb,hx⟩
 have J1:=H.out.keep hb
 have c0:=J1.rb.cell 2 _ rfl
 have f0:=J1.rb.fz 2
 have bl1:=J1.rb.lt
 have HB:=Lib.hid hb
 have HJ:=Lib.hid J1
 clear hb J1 K bl
 rcases hx with ⟨t,ht,rfl⟩ | ⟨ht,t,j,rfl⟩
 ·obtain ⟨p1,p2⟩:=HJ.out.put 2 (.int .i64 t) (e':={ e with start:=t }) rfl ⟨rfl,rfl,rfl,rfl,rfl⟩
  have Z:Hid (RdA 2 e s nx b n1 S val.data.toList w (.returned (.bool true)) (w1.setCell ⟨b,2,none⟩ (.int .i64 t))):=Lib.hid (Or.inl ⟨_,S,by rw [rd2,ht];rfl,rfl,Gr.refl _ _,H.out.set HB.out 2 _,s,p1,Or.inl ⟨rfl,rfl,rfl,rfl,rfl⟩⟩)
  clear p1 p2 ht HJ H HB
  go_wp2
  go_ret
  exact Z.out
 ·have Z:Hid (RdA 2 e s nx b n1 S val.data.toList w (.returned (.bool false)) (w1.setCell ⟨b,2,none⟩ (.int .i64 t))):=Lib.hid (Or.inr ⟨by rw [rd2,ht];rfl,rfl,H.out.set HB.out 2 _⟩)
  clear ht HJ H HB
  go_wp2
  go_ret
  exact Z.out
end Go.Proofs.YtcadomjkjoiakaaGreatDoor
namespace Go.Proofs.YtcadomjkjoiakaaGreatDoor
open Go.RowKit Go Cal Txt Ln Cb
set_option maxRecDepth 100000 in
set_option maxHeartbeats 1600000 in
theorem read_3 (e:Evt) (nx b n1:Nat) (s:Evs) (S:Nat→Prop) (val:ByteArray) (w:World) (h:RdJ b n1 e nx s S w) (hK:∀ W,Below n1 w W→KeepK W) (hs:val.size≤2000000) :
 Calls Tryz.prog 81 #[.pointer (some ⟨b,0,none⟩),.string ⟨#[76,69,78,71,84,72]⟩,.string val] w (RdA 3 e s nx b n1 S val.data.toList w):=by
 have K:=Lib.hid (span_op val w (hK w (Below.refl _ _)).uni hs)
 have H:=Lib.hid h
 have bl:=h.rb.lt
 clear h hK
 go_enter Tryz.func81,Tryz.ntmps81
 go_wp2_with fail
 refine K.out.mono ?_
 rintro x0 w1 ⟨hb,hx⟩
 have J1:=H.out.keep hb
 have c0:=J1.rb.cell 3 _ rfl
 have f0:=J1.rb.fz 3
 have bl1:=J1.rb.lt
 have HB:=Lib.hid hb
 have HJ:=Lib.hid J1
 clear hb J1 K bl
 rcases hx with ⟨t,ht,rfl⟩ | ⟨ht,t,j,rfl⟩
 ·obtain ⟨p1,p2⟩:=HJ.out.put 3 (.int .i64 t) (e':={ e with len:=t }) rfl ⟨rfl,rfl,rfl,rfl,rfl⟩
  have Z:Hid (RdA 3 e s nx b n1 S val.data.toList w (.returned (.bool true)) (w1.setCell ⟨b,3,none⟩ (.int .i64 t))):=Lib.hid (Or.inl ⟨_,S,by rw [rd3,ht];rfl,rfl,Gr.refl _ _,H.out.set HB.out 3 _,s,p1,Or.inl ⟨rfl,rfl,rfl,rfl,rfl⟩⟩)
  clear p1 p2 ht HJ H HB
  go_wp2
  go_ret
  exact Z.out
 ·have Z:Hid (RdA 3 e s nx b n1 S val.data.toList w (.returned (.bool false)) (w1.setCell ⟨b,3,none⟩ (.int .i64 t))):=Lib.hid (Or.inr ⟨by rw [rd3,ht];rfl,rfl,H.out.set HB.out 3 _⟩)
  clear ht HJ H HB
  go_wp2
  go_ret
  exact Z.out
end Go.Proofs.YtcadomjkjoiakaaGreatDoor
