/-
  Texts of our own that serve the card of this claim, joined into one.
-/
import Derived.Test.YtcadomjkjoiakaaGreatDoorPU
import Derived.RangeFuncNested
import Derived.RangeFuncBound
namespace Go.Proofs.YtcadomjkjoiakaaGreatDoor
open Go.RowKit Go
structure Kps (S:Nat→Prop) (W W':World):Prop where
 os:W'.os=W.os
 tape:W'.tape=W.tape
 output:W'.output=W.output
 size:W.heap.size≤W'.heap.size
 block:∀ k,k<W.heap.size→¬ S k→W'.heap[k]?=W.heap[k]?
def Gr (S:Nat→Prop) (W:World) (S':Nat→Prop):Prop:=∀ k,S' k→S k∨W.heap.size≤k
theorem Gr.refl (S:Nat→Prop) (W:World):Gr S W S:=fun _ h=>Or.inl h
theorem Gr.trans {S S1 S2:Nat→Prop} {W W1:World} (h:Gr S W S1) (k:Gr S1 W1 S2) (hs:W.heap.size≤W1.heap.size):Gr S W S2:=fun b hb=>by
 rcases k b hb with q | q
 ·exact h b q
 ·exact Or.inr (Nat.le_trans hs q)
theorem Kps.refl (S:Nat→Prop) (W:World):Kps S W W:=⟨rfl,rfl,rfl,Nat.le_refl _,fun _ _ _=>rfl⟩
theorem Kps.trans {S S1:Nat→Prop} {W W1 W2:World} (h:Kps S W W1) (k:Kps S1 W1 W2) (g:Gr S W S1):Kps S W W2:=
 ⟨k.os.trans h.os,k.tape.trans h.tape,k.output.trans h.output,Nat.le_trans h.size k.size,fun b hb hS=>
  (k.block b (Nat.lt_of_lt_of_le hb h.size) (fun q=>(g b q).elim hS (fun z=>absurd hb (Nat.not_lt.2 z)))).trans (h.block b hb hS)⟩
theorem Kps.mono {S S1:Nat→Prop} {W W1:World} (h:Kps S W W1) (g:∀ k,S k→S1 k):Kps S1 W W1:=
 ⟨h.os,h.tape,h.output,h.size,fun b hb hS=>h.block b hb (fun q=>hS (g b q))⟩
theorem Kps.below {S:Nat→Prop} {W W1:World} {n0:Nat} (h:Kps S W W1) (g:∀ k,S k→n0≤k) (hn:n0≤W.heap.size):Below n0 W W1:=
 ⟨h.os,h.tape,h.output,h.size,fun b hb=>h.block b (Nat.lt_of_lt_of_le hb hn) (fun q=>absurd hb (Nat.not_lt.2 (g b q)))⟩
theorem Kps.of_below {S:Nat→Prop} {W W1:World} (h:Below W.heap.size W W1):Kps S W W1:=⟨h.os,h.tape,h.output,h.size,fun b hb _=>h.block b hb⟩
theorem Kps.put {S:Nat→Prop} {W:World} {l:Nat} (o:Obj) (hl:S l):Kps S W (W.putObj l o):=
 ⟨rfl,rfl,rfl,by simp,fun b _ hS=>World.putObj_heap_other (fun e=>hS (by rw [e];exact hl))⟩
theorem Kps.set {S:Nat→Prop} {W:World} {p:Addr} (v:Value) (hl:S p.block):Kps S W (W.setCell p v):=
 ⟨rfl,rfl,rfl,by simp [World.setCell],fun b _ hS=>Below.heap_setCell _ _ _ _ (fun e=>hS (by rw [e];exact hl))⟩
variable {σ:Type}
structure Frm (n0:Nat) (J:σ→(Nat→Prop)→World→Prop):Prop where
 lt:∀ x S W,J x S W→∀ k,S k→n0≤k∧k<W.heap.size
 on:∀ x S W W',J x S W→Below n0 W W'→(∀ k,S k→W'.heap[k]?=W.heap[k]?)→J x S W'
def run (f:σ→Int→σ × Bool):σ→List Int→σ × Bool
 | x,[]=>(x,true)
 | x,n :: ns=>match f x n with
   | (y,true)=>run f y ns
   | (y,false)=>(y,false)
theorem run_nil (f:σ→Int→σ × Bool) (x:σ):run f x []=(x,true):=rfl
theorem run_yes {f:σ→Int→σ × Bool} {x y:σ} {n:Int} (h:f x n=(y,true)) (ns:List Int):run f x (n :: ns)=run f y ns:=by
 show (match f x n with | (y,true)=>run f y ns | (y,false)=>(y,false))=_
 rw [h]
theorem run_no {f:σ→Int→σ × Bool} {x y:σ} {n:Int} (h:f x n=(y,false)) (ns:List Int):run f x (n :: ns)=(y,false):=by
 show (match f x n with | (y,true)=>run f y ns | (y,false)=>(y,false))=_
 rw [h]
def Out (J JX:σ→(Nat→Prop)→World→Prop) (p:σ × Bool) (S:Nat→Prop) (W:World):Prop:=(p.2=true∧J p.1 S W)∨(p.2=false∧JX p.1 S W)
theorem Out.mono {τ:Type} {J JX:σ→(Nat→Prop)→World→Prop} {K KX:τ→(Nat→Prop)→World→Prop} {p:σ × Bool} {q:τ × Bool} {S S':Nat→Prop} {W W':World} (h:Out J JX p S W) (e:p.2=q.2) (h1:J p.1 S W→K q.1 S' W') (h2:JX p.1 S W→KX q.1 S' W'):Out K KX q S' W':=by
 rcases h with ⟨a,b⟩ | ⟨a,b⟩
 ·exact Or.inl ⟨e ▸ a,h1 b⟩
 ·exact Or.inr ⟨e ▸ a,h2 b⟩
def Yld (P:Program) (f:σ→Int→σ × Bool) (J JX:σ→(Nat→Prop)→World→Prop) (l:Nat) (R:σ × Bool):Prop:=
 ∀ x S W n m,J x S W→(∃ ns,R=run f x (n :: ns))→YieldAt Fence.wide m P l #[.int .i64 n] W fun e W'=>e=.returned (.bool (f x n).2)∧∃ S',Gr S W S'∧Kps S W W'∧Out J JX (f x n) S' W'
def Itr (P:Program) (g:Nat) (lb:Array Value) (xs:List Int) (n0:Nat) (w0:World) (T:Nat→Prop):Prop:=
 ∀ (σ:Type) (f:σ→Int→σ × Bool) (J JX:σ→(Nat→Prop)→World→Prop) (l:Nat) (x:σ) (S:Nat→Prop) (W:World),Frm n0 J→Frm n0 JX→Yld P f J JX l (run f x xs)→J x S W→Below n0 w0 W→n0≤w0.heap.size→
  (∀ k,T k→k<w0.heap.size∧n0≤k∧¬ S k∧W.heap[k]?=w0.heap[k]?)→
  Calls P g (#[.func (.yield l) #[] #[]]++lb) W fun e W'=>(∃ v,e=.returned v)∧∃ S',Gr S W S'∧Kps (fun k=>S k∨T k) W W'∧Out J JX (run f x xs) S' W'
theorem Itr.more {P:Program} {g:Nat} {lb:Array Value} {xs:List Int} {n0:Nat} {w0:World} {T T':Nat→Prop} (h:Itr P g lb xs n0 w0 T) (ht:∀ b,T b→T' b):Itr P g lb xs n0 w0 T':=fun σ f J JX l x S W a b c d e i hT=>
 (h σ f J JX l x S W a b c d e i (fun k hk=>hT k (ht k hk))).mono (fun _ _ ⟨v,S',q1,q2,q3⟩=>⟨v,S',q1,q2.mono (fun k hk=>hk.imp id (ht k)),q3⟩)
def Wth {τ:Type} (E:Nat→Prop) (H:τ→World→Prop) (π:τ→σ) (J:σ→(Nat→Prop)→World→Prop) (y:τ) (S:Nat→Prop) (W:World):Prop:=
 ∃ S0:Nat→Prop,(∀ b,S b↔(S0 b∨E b))∧(∀ b,E b→¬ S0 b)∧J (π y) S0 W∧H y W
theorem Wth.frm {τ:Type} {n0:Nat} {E:Nat→Prop} {H:τ→World→Prop} {π:τ→σ} {J:σ→(Nat→Prop)→World→Prop} (hJ:Frm n0 J) (h0:∀ b,E b→n0≤b) (hlt:∀ y W,H y W→∀ b,E b→b<W.heap.size)
 (hH:∀ y W W',H y W→(∀ b,E b→W'.heap[b]?=W.heap[b]?)→H y W'):Frm n0 (Wth E H π J):=by
 refine ⟨fun y S W h b hb=>?_,fun y S W W' h q same=>?_⟩
 ·obtain ⟨S0,e,_,hj,hh⟩:=h
  rcases (e b).1 hb with z | z
  ·exact hJ.lt _ _ _ hj b z
  ·exact ⟨h0 b z,hlt _ _ hh b z⟩
 ·obtain ⟨S0,e,d,hj,hh⟩:=h
  exact ⟨S0,e,d,hJ.on _ _ _ _ hj q (fun b hb=>same b ((e b).2 (Or.inl hb))),hH _ _ _ hh (fun b hb=>same b ((e b).2 (Or.inr hb)))⟩
theorem wth_step {E S S0 S1:Nat→Prop} {W W1:World} (e:∀ b,S b↔(S0 b∨E b)) (d:∀ b,E b→¬ S0 b) (hlt:∀ b,E b→b<W.heap.size) (g:Gr S0 W S1) (k:Kps S0 W W1) :
 (∀ b,E b→¬ S1 b)∧(∀ b,E b→W1.heap[b]?=W.heap[b]?)∧Gr S W (fun b=>S1 b∨E b)∧Kps S W W1:=by
 refine ⟨fun b hb z=>(g b z).elim (d b hb) (fun u=>absurd (hlt b hb) (Nat.not_lt.2 u)),fun b hb=>k.block b (hlt b hb) (d b hb),fun b hb=>?_,k.mono (fun b hb=>(e b).2 (Or.inl hb))⟩
 rcases hb with z | z
 ·exact (g b z).imp (fun u=>(e b).2 (Or.inl u)) id
 ·exact Or.inl ((e b).2 (Or.inr z))
def bPost (f:σ→Int→σ × Bool) (I:σ→(Nat→Prop)→World→Prop) (Ix:Code→σ→(Nat→Prop)→World→Prop) (x:σ) (S:Nat→Prop) (n:Int) (W:World):Exit→Act→World→Prop
 | .normal,_,W'=>∃ y S',f x n=(y,true)∧Gr S W S'∧Kps S W W'∧I y S' W'
 | .ret,_,W'=>∃ y S',f x n=(y,false)∧Gr S W S'∧Kps S W W'∧Ix .ret y S' W'
 | .exit id,_,W'=>∃ y S',f x n=(y,false)∧Gr S W S'∧Kps S W W'∧Ix (.exit id) y S' W'
 | .goto t,_,W'=>∃ y S',f x n=(y,false)∧Gr S W S'∧Kps S W W'∧Ix (.goto t) y S' W'
 | .panic _,_,_=>False
 | .outgrown,_,_=>False
theorem rf_law2 {P:Program} {g:Operand} {ps:Array Tmp} {assign body:Code} {Q:Exit→Act→World→Prop} {a:Act} {w:World} {m:Nat}
 {gf:Nat} {lb:Array Value} (hg:a.eval g=.func (.func gf) #[] lb) (eg:∀ args w,(callFunc gf args).run P w=.ok (.enter gf args) w)
 {n0:Nat} {w0:World} {T:Nat→Prop} {xs:List Int} (hseq:Itr P gf lb xs n0 w0 T) (hb0:Below n0 w0 w) (hn0:n0≤w0.heap.size)
 (f:σ→Int→σ × Bool) (I:σ→(Nat→Prop)→World→Prop) (Ix:Code→σ→(Nat→Prop)→World→Prop) (hI:Frm n0 I) (hIx:∀ c,Frm n0 (Ix c)) (x0:σ) (S0:Nat→Prop) (h0:I x0 S0 w)
 (hT:∀ k,T k→k<w0.heap.size∧n0≤k∧¬ S0 k∧w.heap[k]?=w0.heap[k]?) (hps:ps.size=1) (a₁:Int→Act)
 (hassign:∀ (l:Nat) (n:Int) (W:World) (K:Act→World→Prop),K (a₁ n) W→
  assign.wpIn (Fence.wide.inRound l) m P (Exit.then K (fun _ _ _=>False)) { tmps:=(ps.zip #[.int .i64 n]).foldl (fun t (p,v)=>t.setIfInBounds p v) a.tmps,defers:=[] } W)
 (hbody:∀ (l:Nat) (x:σ) (S:Nat→Prop) (n:Int) (W:World),I x S W→n0≤W.heap.size→(∃ ns,run f x0 xs=run f x (n :: ns))→body.wpIn (Fence.wide.inRound l) m P (bPost f I Ix x S n W) (a₁ n) W)
 (hdone:∀ (D:Nat) (x:σ) (S:Nat→Prop) (W:World),w.heap.size≤D→¬ S D→run f x0 xs=(x,true)→I x S W→Gr S0 w S→Kps (fun k=>S0 k∨T k) w W→W.heap[D]?=some (.deferred (some []))→
  Q .normal { a with defers:={ target:=.collected D,args:=#[] } :: a.defers } W)
 (hstop:∀ (D:Nat) (c:Code) (x:σ) (S:Nat→Prop) (W:World),w.heap.size≤D→¬ S D→run f x0 xs=(x,false)→Ix c x S W→Gr S0 w S→Kps (fun k=>S0 k∨T k) w W→W.heap[D]?=some (.deferred (some []))→
  c.wpIn Fence.wide m P Q { a with defers:={ target:=.collected D,args:=#[] } :: a.defers } W) :
 (Code.rangeFunc g ps assign body).wpIn Fence.wide m P Q a w:=by
 have hnw:n0≤w.heap.size:=Nat.le_trans hn0 hb0.size
 refine wpIn_rangeFunc ?_
 intro fn hfn
 rw [show Fence.wide.round=none from rfl]
 obtain ⟨rec,hrec⟩:∃ rec:LoopState→Option Code→Loop,rec=fun st pe=>{ state:=st,pending:=pe,fn,tmps:=a.tmps,params:=ps,assign,body,defers:=w.heap.size }:=⟨_,rfl⟩
 obtain ⟨W1,hW1⟩:∃ W1,(w.alloc (.deferred (some []))).alloc (.loop (rec .ready none))=W1:=⟨_,rfl⟩
 have hL1:W1.heap[w.heap.size + 1]?=some (.loop (rec .ready none)):=by
  rw [← hW1];have:=World.alloc_heap_new (w.alloc (.deferred (some []))) (.loop (rec .ready none));rwa [World.size_alloc] at this
 have hK1:W1.heap[w.heap.size]?=some (.deferred (some [])):=by
  rw [← hW1];exact (Below.heap_alloc _ _ _ (by simp)).trans (World.alloc_heap_new w _)
 have hB1:Below w.heap.size w W1:=by rw [← hW1];exact ((Below.refl _ w).alloc (Nat.le_refl _) _).alloc (by simp) _
 have hI1:I x0 S0 W1:=hI.on _ _ _ _ h0 (hB1.mono hnw) (fun k hk=>hB1.block k (hI.lt _ _ _ h0 k hk).2)
 have hs0:∀ k,S0 k→k<w.heap.size:=fun k hk=>(hI.lt _ _ _ h0 k hk).2
 refine ⟨w.heap.size + 1,[{ target:=.collected w.heap.size,args:=#[] }],W1,{ target:=.fn (.func gf) lb,args:=#[.func (.yield (w.heap.size + 1)) #[] #[]] },W1,gf,
  #[.func (.yield (w.heap.size + 1)) #[] #[]]++lb,W1,?_,?_,?_,?_,fun h=>(by cases h),?_⟩
 ·rw [← hW1,hrec];exact run_enterLoop_outer _ _ _ _ _
 ·simp only [resolve,hg]
  simp [go_sem]
 ·intro f' _;trivial
 ·simp [invoke,go_sem,eg]
 ·obtain ⟨D,hD⟩:∃ D,D=w.heap.size:=⟨_,rfl⟩
  rw [← hD] at hL1 hK1 hnw hs0 hB1 ⊢
  have lt2:∀ {W:World} {o:Obj} {k:Nat},W.heap[k]?=some o→k<W.heap.size:=fun h=>(Array.getElem?_eq_some_iff.1 h).1
  have FJ:Frm n0 (fun (x:σ) (S:Nat→Prop) (W:World)=>∃ R:Nat→Prop,(∀ k,S k↔(R k∨k=D∨k=D + 1))∧¬ R D∧¬ R (D + 1)∧I x R W∧W.heap[D + 1]?=some (.loop (rec .ready none))∧W.heap[D]?=some (.deferred (some []))):=by
   refine ⟨fun x S W h k hk=>?_,fun x S W W' h q same=>?_⟩
   ·obtain ⟨R,hR,r1,r2,hi,hl,hd⟩:=h
    rcases (hR k).1 hk with z | rfl | rfl
    ·exact hI.lt _ _ _ hi k z
    ·exact ⟨hnw,lt2 hd⟩
    ·exact ⟨by omega,lt2 hl⟩
   ·obtain ⟨R,hR,r1,r2,hi,hl,hd⟩:=h
    exact ⟨R,hR,r1,r2,hI.on _ _ _ _ hi q (fun k hk=>same k ((hR k).2 (Or.inl hk))),(same _ ((hR _).2 (Or.inr (Or.inr rfl)))).trans hl,(same _ ((hR _).2 (Or.inr (Or.inl rfl)))).trans hd⟩
  have FX:Frm n0 (fun (x:σ) (S:Nat→Prop) (W:World)=>∃ (R:Nat→Prop) (c:Code),(∀ k,S k↔(R k∨k=D∨k=D + 1))∧¬ R D∧¬ R (D + 1)∧Ix c x R W∧W.heap[D + 1]?=some (.loop (rec .done (some c)))∧W.heap[D]?=some (.deferred (some []))):=by
   refine ⟨fun x S W h k hk=>?_,fun x S W W' h q same=>?_⟩
   ·obtain ⟨R,c,hR,r1,r2,hi,hl,hd⟩:=h
    rcases (hR k).1 hk with z | rfl | rfl
    ·exact (hIx c).lt _ _ _ hi k z
    ·exact ⟨hnw,lt2 hd⟩
    ·exact ⟨by omega,lt2 hl⟩
   ·obtain ⟨R,c,hR,r1,r2,hi,hl,hd⟩:=h
    exact ⟨R,c,hR,r1,r2,(hIx c).on _ _ _ _ hi q (fun k hk=>same k ((hR k).2 (Or.inl hk))),(same _ ((hR _).2 (Or.inr (Or.inr rfl)))).trans hl,(same _ ((hR _).2 (Or.inr (Or.inl rfl)))).trans hd⟩
  refine callsIn_wide.2 ((hseq σ f _ _ (D + 1) x0 (fun k=>S0 k∨k=D∨k=D + 1) W1 FJ FX ?_ ⟨S0,fun k=>Iff.rfl,fun q=>by have:=hs0 _ q;omega,fun q=>by have:=hs0 _ q;omega,hI1,hL1,hK1⟩ (hb0.trans (hB1.mono hnw)) hn0 ?_).mono ?_)
  ·-- one round
   rintro x S W n _ ⟨R,hR,r1,r2,hi,hl,hk⟩ hE
   have hy:=run_yield (P:=P) (args:=#[.int .i64 n]) hl (by rw [hrec];exact hps.symm)
   rw [hrec] at hy
   refine ⟨fn,_,assign,body,hy,?_⟩
   have hround:RoundIn Fence.wide m P (D + 1) fn ((ps.zip #[.int .i64 n]).foldl (fun t (p,v)=>t.setIfInBounds p v) a.tmps) assign body W (fun e W'=>e=.returned (.bool (f x n).2)∧∃ S',Gr S W S'∧Kps S W W'∧Out (fun (x:σ) (S:Nat→Prop) (W:World)=>∃ R:Nat→Prop,(∀ k,S k↔(R k∨k=D∨k=D + 1))∧¬ R D∧¬ R (D + 1)∧I x R W∧W.heap[D + 1]?=some (.loop (rec .ready none))∧W.heap[D]?=some (.deferred (some []))) (fun (x:σ) (S:Nat→Prop) (W:World)=>∃ (R:Nat→Prop) (c:Code),(∀ k,S k↔(R k∨k=D∨k=D + 1))∧¬ R D∧¬ R (D + 1)∧Ix c x R W∧W.heap[D + 1]?=some (.loop (rec .done (some c)))∧W.heap[D]?=some (.deferred (some []))) (f x n) S' W'):=by
    refine roundIn_of_wpIn hfn (hassign _ n W _ ?_)
    have hlt:=lt2 hl
    have hdt:=lt2 hk
    refine ⟨_,run_beginRound hl (by rw [hrec]),?_⟩
    obtain ⟨W2,hW2⟩:∃ W2,W.putObj (D + 1) (.loop { rec .ready none with state:=.busy })=W2:=⟨_,rfl⟩
    rw [hW2]
    have K2:Kps S W W2:=by rw [← hW2];exact Kps.put _ ((hR _).2 (Or.inr (Or.inr rfl)))
    have z2:W2.heap.size=W.heap.size:=by rw [← hW2];simp
    have hl2:W2.heap[D + 1]?=some (.loop { rec .ready none with state:=.busy }):=by rw [← hW2];exact World.putObj_heap_same hlt
    have hk2:W2.heap[D]?=some (.deferred (some [])):=by rw [← hW2];exact (World.putObj_heap_other (by omega)).trans hk
    have hi2:I x R W2:=hI.on _ _ _ _ hi (K2.below (fun k hk'=>(FJ.lt x S W ⟨R,hR,r1,r2,hi,hl,hk⟩ k hk').1) (by omega)) (fun k hk'=>by rw [← hW2];exact World.putObj_heap_other (fun e=>r2 (e ▸ hk')))
    refine wpIn_mono (hbody _ x R n W2 hi2 (by omega) hE) ?_
    have fin:∀ (jump:Option Code) (y:σ) (R':Nat→Prop) (W3:World),Gr R W2 R'→Kps R W2 W3→
     (Instr.endRound (D + 1) jump).run P W3=.ok (.bool jump.isNone) (W3.putObj (D + 1) (.loop (rec (if jump.isNone then .ready else .done) jump)))∧
     (W3.putObj (D + 1) (.loop (rec (if jump.isNone then .ready else .done) jump))).heap[D + 1]?=some (.loop (rec (if jump.isNone then .ready else .done) jump))∧
     (W3.putObj (D + 1) (.loop (rec (if jump.isNone then .ready else .done) jump))).heap[D]?=some (.deferred (some []))∧¬ R' D∧¬ R' (D + 1)∧Gr S W (fun k=>R' k∨k=D∨k=D + 1)∧Kps S W (W3.putObj (D + 1) (.loop (rec (if jump.isNone then .ready else .done) jump)))∧
     Below n0 W3 (W3.putObj (D + 1) (.loop (rec (if jump.isNone then .ready else .done) jump)))∧(∀ k,R' k→(W3.putObj (D + 1) (.loop (rec (if jump.isNone then .ready else .done) jump))).heap[k]?=W3.heap[k]?):=fun jump y R' W3 g3 k3=>by
     have hl3:=(k3.block _ (lt2 hl2) r2).trans hl2
     have hk3:=(k3.block _ (lt2 hk2) r1).trans hk2
     have r3:¬ R' D:=fun q=>by
      rcases g3 _ q with z | z
      ·exact r1 z
      ·omega
     have r4:¬ R' (D + 1):=fun q=>by
      rcases g3 _ q with z | z
      ·exact r2 z
      ·omega
     have e3:=run_endRound (P:=P) jump hl3
     refine ⟨?_,World.putObj_heap_same (lt2 hl3),(World.putObj_heap_other (by omega)).trans hk3,r3,r4,?_,?_,?_,?_⟩
     ·rw [hrec] at e3 ⊢;exact e3
     ·rintro k (q | rfl | rfl)
      ·rcases g3 _ q with z | z
       ·exact Or.inl ((hR _).2 (Or.inl z))
       ·exact Or.inr (by omega)
      ·exact Or.inl ((hR _).2 (Or.inr (Or.inl rfl)))
      ·exact Or.inl ((hR _).2 (Or.inr (Or.inr rfl)))
     ·have kA:Kps S W W3:=K2.trans k3 (fun k q=>Or.inl ((hR _).2 (Or.inl q)))
      exact kA.trans (Kps.put (S:=S) _ ((hR _).2 (Or.inr (Or.inr rfl)))) (Gr.refl _ _)
     ·exact (Kps.put (S:=fun k=>k=D + 1) _ rfl).below (fun k e=>by omega) (by have:=k3.size;omega)
     ·exact fun k q=>World.putObj_heap_other (fun e=>r4 (e ▸ q))
    rintro e a3 W3 hp
    cases e with
    | normal=>
      obtain ⟨y,R',e1,g3,k3,hi3⟩:=hp
      obtain ⟨q1,q2,q3,q4,q5,q6,q7,q8,q9⟩:=fin none y R' W3 g3 k3
      refine ⟨_,_,q1,?_⟩
      rw [e1]
      exact ⟨rfl,_,q6,q7,Or.inl ⟨rfl,R',fun k=>Iff.rfl,q4,q5,hI.on _ _ _ _ hi3 q8 q9,q2,q3⟩⟩
    | ret=>
      obtain ⟨y,R',e1,g3,k3,hi3⟩:=hp
      obtain ⟨q1,q2,q3,q4,q5,q6,q7,q8,q9⟩:=fin (some .ret) y R' W3 g3 k3
      refine ⟨_,_,q1,?_⟩
      rw [e1]
      exact ⟨rfl,_,q6,q7,Or.inr ⟨rfl,R',_,fun k=>Iff.rfl,q4,q5,(hIx _).on _ _ _ _ hi3 q8 q9,q2,q3⟩⟩
    | exit id=>
      obtain ⟨y,R',e1,g3,k3,hi3⟩:=hp
      obtain ⟨q1,q2,q3,q4,q5,q6,q7,q8,q9⟩:=fin (some (.exit id)) y R' W3 g3 k3
      refine ⟨_,_,q1,?_⟩
      rw [e1]
      exact ⟨rfl,_,q6,q7,Or.inr ⟨rfl,R',_,fun k=>Iff.rfl,q4,q5,(hIx _).on _ _ _ _ hi3 q8 q9,q2,q3⟩⟩
    | goto t=>
      obtain ⟨y,R',e1,g3,k3,hi3⟩:=hp
      obtain ⟨q1,q2,q3,q4,q5,q6,q7,q8,q9⟩:=fin (some (.goto t)) y R' W3 g3 k3
      refine ⟨_,_,q1,?_⟩
      rw [e1]
      exact ⟨rfl,_,q6,q7,Or.inr ⟨rfl,R',_,fun k=>Iff.rfl,q4,q5,(hIx _).on _ _ _ _ hi3 q8 q9,q2,q3⟩⟩
    | panic ch=>exact hp.elim
    | outgrown=>exact hp.elim
   exact ⟨hround.1,fun c cs _=>hround.2 c cs (by intro d hd;cases hd)⟩
  ·intro k hk
   obtain ⟨t1,t2,t3,t4⟩:=hT k hk
   have t5:k<D:=by have:=hb0.size;omega
   exact ⟨t1,t2,fun q=>(by rcases q with q | e | e;exact t3 q;all_goals omega),(hB1.block k t5).trans t4⟩
  ·rintro e W2 ⟨⟨v,rfl⟩,S',g',k',ho⟩
   have kk:∀ (W3:World) (o:Obj),W3=W2.putObj (D + 1) o→Kps (fun k=>S0 k∨T k) w W3:=fun W3 o e3=>by
    subst e3
    refine ⟨k'.os.trans hB1.os,k'.tape.trans hB1.tape,k'.output.trans hB1.output,?_,fun k hk hS=>?_⟩
    ·have h1:=hB1.size
     have h2:=k'.size
     simp only [World.putObj_size]
     omega
    ·have hk':k<D:=by omega
     refine (World.putObj_heap_other (by omega)).trans (((k'.block k (by have:=hB1.size;omega) ?_)).trans (hB1.block k hk'))
     rintro ((q | rfl | rfl) | q)
     ·exact hS (Or.inl q)
     ·omega
     ·omega
     ·exact hS (Or.inr q)
   have gg:∀ R:Nat→Prop,(∀ k,S' k↔(R k∨k=D∨k=D + 1))→Gr S0 w R:=fun R hR k hk=>by
    rcases g' k ((hR k).2 (Or.inl hk)) with (q | rfl | rfl) | q
    ·exact Or.inl q
    ·exact Or.inr (by omega)
    ·exact Or.inr (by omega)
    ·exact Or.inr (by have:=hB1.size;omega)
   rcases ho with ⟨hr,R,hR,r1,r2,hi,hl,hd⟩ | ⟨hr,R,c,hR,r1,r2,hi,hl,hd⟩
   ·have e4:=run_endLoop (P:=P) hl (by rw [hrec];simp)
    have q8:∀ o,Below n0 W2 (W2.putObj (D + 1) o):=fun o=>(Kps.put (S:=fun k=>k=D + 1) _ rfl).below (fun k e=>by omega) (by have:=lt2 hl;omega)
    have q9:∀ o k,R k→(W2.putObj (D + 1) o).heap[k]?=W2.heap[k]?:=fun o k q=>World.putObj_heap_other (fun e=>r2 (e ▸ q))
    rw [show (rec .ready none).pending=none by rw [hrec]] at e4
    refine ⟨none,_,e4,?_⟩
    exact hdone D (run f x0 xs).1 R _ (by omega) r1 (by rw [← hr]) (hI.on _ _ _ _ hi (q8 _) (q9 _)) (gg R hR) (kk _ _ rfl) ((World.putObj_heap_other (by omega)).trans hd)
   ·have e4:=run_endLoop (P:=P) hl (by rw [hrec];simp)
    have q8:∀ o,Below n0 W2 (W2.putObj (D + 1) o):=fun o=>(Kps.put (S:=fun k=>k=D + 1) _ rfl).below (fun k e=>by omega) (by have:=lt2 hl;omega)
    have q9:∀ o k,R k→(W2.putObj (D + 1) o).heap[k]?=W2.heap[k]?:=fun o k q=>World.putObj_heap_other (fun e=>r2 (e ▸ q))
    rw [show (rec .done (some c)).pending=some c by rw [hrec]] at e4
    refine ⟨some c,_,e4,?_⟩
    exact hstop D c (run f x0 xs).1 R _ (by omega) r1 (by rw [← hr]) ((hIx c).on _ _ _ _ hi (q8 _) (q9 _)) (gg R hR) (kk _ _ rfl) ((World.putObj_heap_other (by omega)).trans hd)
end Go.Proofs.YtcadomjkjoiakaaGreatDoor
namespace Go.Proofs.YtcadomjkjoiakaaGreatDoor
open Go.RowKit Go
namespace Sg
variable {σ α:Type}
def run (f:σ→α→σ × Bool):σ→List α→σ × Bool
 | x,[]=>(x,true)
 | x,n :: ns=>match f x n with
   | (y,true)=>run f y ns
   | (y,false)=>(y,false)
theorem run_nil (f:σ→α→σ × Bool) (x:σ):run f x []=(x,true):=rfl
theorem run_yes {f:σ→α→σ × Bool} {x y:σ} {n:α} (h:f x n=(y,true)) (ns:List α):run f x (n :: ns)=run f y ns:=by
 show (match f x n with | (y,true)=>run f y ns | (y,false)=>(y,false))=_
 rw [h]
theorem run_no {f:σ→α→σ × Bool} {x y:σ} {n:α} (h:f x n=(y,false)) (ns:List α):run f x (n :: ns)=(y,false):=by
 show (match f x n with | (y,true)=>run f y ns | (y,false)=>(y,false))=_
 rw [h]
def Yld (P:Program) (en:α→Array Value) (f:σ→α→σ × Bool) (J JX:σ→(Nat→Prop)→World→Prop) (l:Nat) (R:σ × Bool):Prop:=
 ∀ x S W n m,J x S W→(∃ ns,R=run f x (n :: ns))→YieldAt Fence.wide m P l (en n) W fun e W'=>e=.returned (.bool (f x n).2)∧∃ S',Gr S W S'∧Kps S W W'∧Out J JX (f x n) S' W'
def Itr (P:Program) (en:α→Array Value) (g:Nat) (lb:Array Value) (xs:List α) (n0:Nat) (w0:World) (T:Nat→Prop):Prop:=
 ∀ (σ:Type) (f:σ→α→σ × Bool) (J JX:σ→(Nat→Prop)→World→Prop) (l:Nat) (x:σ) (S:Nat→Prop) (W:World),Frm n0 J→Frm n0 JX→Yld P en f J JX l (run f x xs)→J x S W→Below n0 w0 W→n0≤w0.heap.size→
  (∀ k,T k→k<w0.heap.size∧n0≤k∧¬ S k∧W.heap[k]?=w0.heap[k]?)→
  Calls P g (#[.func (.yield l) #[] #[]]++lb) W fun e W'=>(∃ v,e=.returned v)∧∃ S',Gr S W S'∧Kps (fun k=>S k∨T k) W W'∧Out J JX (run f x xs) S' W'
theorem Itr.more {P:Program} {en:α→Array Value} {g:Nat} {lb:Array Value} {xs:List α} {n0:Nat} {w0:World} {T T':Nat→Prop} (h:Itr P en g lb xs n0 w0 T) (ht:∀ b,T b→T' b):Itr P en g lb xs n0 w0 T':=fun σ f J JX l x S W a b c d e i hT=>
 (h σ f J JX l x S W a b c d e i (fun k hk=>hT k (ht k hk))).mono (fun _ _ ⟨v,S',q1,q2,q3⟩=>⟨v,S',q1,q2.mono (fun k hk=>hk.imp id (ht k)),q3⟩)
def bPost (f:σ→α→σ × Bool) (I:σ→(Nat→Prop)→World→Prop) (Ix:Code→σ→(Nat→Prop)→World→Prop) (x:σ) (S:Nat→Prop) (n:α) (W:World):Exit→Act→World→Prop
 | .normal,_,W'=>∃ y S',f x n=(y,true)∧Gr S W S'∧Kps S W W'∧I y S' W'
 | .ret,_,W'=>∃ y S',f x n=(y,false)∧Gr S W S'∧Kps S W W'∧Ix .ret y S' W'
 | .exit id,_,W'=>∃ y S',f x n=(y,false)∧Gr S W S'∧Kps S W W'∧Ix (.exit id) y S' W'
 | .goto t,_,W'=>∃ y S',f x n=(y,false)∧Gr S W S'∧Kps S W W'∧Ix (.goto t) y S' W'
 | .panic _,_,_=>False
 | .outgrown,_,_=>False
theorem rf_law2 {P:Program} {en:α→Array Value} {g:Operand} {ps:Array Tmp} {assign body:Code} {Q:Exit→Act→World→Prop} {a:Act} {w:World} {m:Nat}
 {gf:Nat} {lb:Array Value} (hg:a.eval g=.func (.func gf) #[] lb) (eg:∀ args w,(callFunc gf args).run P w=.ok (.enter gf args) w)
 {n0:Nat} {w0:World} {T:Nat→Prop} {xs:List α} (hseq:Itr P en gf lb xs n0 w0 T) (hb0:Below n0 w0 w) (hn0:n0≤w0.heap.size)
 (f:σ→α→σ × Bool) (I:σ→(Nat→Prop)→World→Prop) (Ix:Code→σ→(Nat→Prop)→World→Prop) (hI:Frm n0 I) (hIx:∀ c,Frm n0 (Ix c)) (x0:σ) (S0:Nat→Prop) (h0:I x0 S0 w)
 (hT:∀ k,T k→k<w0.heap.size∧n0≤k∧¬ S0 k∧w.heap[k]?=w0.heap[k]?) (hps:∀ n:α,ps.size=(en n).size) (a₁:α→Act)
 (hassign:∀ (l:Nat) (n:α) (W:World) (K:Act→World→Prop),K (a₁ n) W→
  assign.wpIn (Fence.wide.inRound l) m P (Exit.then K (fun _ _ _=>False)) { tmps:=(ps.zip (en n)).foldl (fun t (p,v)=>t.setIfInBounds p v) a.tmps,defers:=[] } W)
 (hbody:∀ (l:Nat) (x:σ) (S:Nat→Prop) (n:α) (W:World),I x S W→n0≤W.heap.size→(∃ ns,run f x0 xs=run f x (n :: ns))→body.wpIn (Fence.wide.inRound l) m P (bPost f I Ix x S n W) (a₁ n) W)
 (hdone:∀ (D:Nat) (x:σ) (S:Nat→Prop) (W:World),w.heap.size≤D→¬ S D→run f x0 xs=(x,true)→I x S W→Gr S0 w S→Kps (fun k=>S0 k∨T k) w W→W.heap[D]?=some (.deferred (some []))→
  Q .normal { a with defers:={ target:=.collected D,args:=#[] } :: a.defers } W)
 (hstop:∀ (D:Nat) (c:Code) (x:σ) (S:Nat→Prop) (W:World),w.heap.size≤D→¬ S D→run f x0 xs=(x,false)→Ix c x S W→Gr S0 w S→Kps (fun k=>S0 k∨T k) w W→W.heap[D]?=some (.deferred (some []))→
  c.wpIn Fence.wide m P Q { a with defers:={ target:=.collected D,args:=#[] } :: a.defers } W) :
 (Code.rangeFunc g ps assign body).wpIn Fence.wide m P Q a w:=by
 have hnw:n0≤w.heap.size:=Nat.le_trans hn0 hb0.size
 refine wpIn_rangeFunc ?_
 intro fn hfn
 rw [show Fence.wide.round=none from rfl]
 obtain ⟨rec,hrec⟩:∃ rec:LoopState→Option Code→Loop,rec=fun st pe=>{ state:=st,pending:=pe,fn,tmps:=a.tmps,params:=ps,assign,body,defers:=w.heap.size }:=⟨_,rfl⟩
 obtain ⟨W1,hW1⟩:∃ W1,(w.alloc (.deferred (some []))).alloc (.loop (rec .ready none))=W1:=⟨_,rfl⟩
 have hL1:W1.heap[w.heap.size + 1]?=some (.loop (rec .ready none)):=by
  rw [← hW1];have:=World.alloc_heap_new (w.alloc (.deferred (some []))) (.loop (rec .ready none));rwa [World.size_alloc] at this
 have hK1:W1.heap[w.heap.size]?=some (.deferred (some [])):=by
  rw [← hW1];exact (Below.heap_alloc _ _ _ (by simp)).trans (World.alloc_heap_new w _)
 have hB1:Below w.heap.size w W1:=by rw [← hW1];exact ((Below.refl _ w).alloc (Nat.le_refl _) _).alloc (by simp) _
 have hI1:I x0 S0 W1:=hI.on _ _ _ _ h0 (hB1.mono hnw) (fun k hk=>hB1.block k (hI.lt _ _ _ h0 k hk).2)
 have hs0:∀ k,S0 k→k<w.heap.size:=fun k hk=>(hI.lt _ _ _ h0 k hk).2
 refine ⟨w.heap.size + 1,[{ target:=.collected w.heap.size,args:=#[] }],W1,{ target:=.fn (.func gf) lb,args:=#[.func (.yield (w.heap.size + 1)) #[] #[]] },W1,gf,
  #[.func (.yield (w.heap.size + 1)) #[] #[]]++lb,W1,?_,?_,?_,?_,fun h=>(by cases h),?_⟩
 ·rw [← hW1,hrec];exact run_enterLoop_outer _ _ _ _ _
 ·simp only [resolve,hg]
  simp [go_sem]
 ·intro f' _;trivial
 ·simp [invoke,go_sem,eg]
 ·obtain ⟨D,hD⟩:∃ D,D=w.heap.size:=⟨_,rfl⟩
  rw [← hD] at hL1 hK1 hnw hs0 hB1 ⊢
  have lt2:∀ {W:World} {o:Obj} {k:Nat},W.heap[k]?=some o→k<W.heap.size:=fun h=>(Array.getElem?_eq_some_iff.1 h).1
  have FJ:Frm n0 (fun (x:σ) (S:Nat→Prop) (W:World)=>∃ R:Nat→Prop,(∀ k,S k↔(R k∨k=D∨k=D + 1))∧¬ R D∧¬ R (D + 1)∧I x R W∧W.heap[D + 1]?=some (.loop (rec .ready none))∧W.heap[D]?=some (.deferred (some []))):=by
   refine ⟨fun x S W h k hk=>?_,fun x S W W' h q same=>?_⟩
   ·obtain ⟨R,hR,r1,r2,hi,hl,hd⟩:=h
    rcases (hR k).1 hk with z | rfl | rfl
    ·exact hI.lt _ _ _ hi k z
    ·exact ⟨hnw,lt2 hd⟩
    ·exact ⟨by omega,lt2 hl⟩
   ·obtain ⟨R,hR,r1,r2,hi,hl,hd⟩:=h
    exact ⟨R,hR,r1,r2,hI.on _ _ _ _ hi q (fun k hk=>same k ((hR k).2 (Or.inl hk))),(same _ ((hR _).2 (Or.inr (Or.inr rfl)))).trans hl,(same _ ((hR _).2 (Or.inr (Or.inl rfl)))).trans hd⟩
  have FX:Frm n0 (fun (x:σ) (S:Nat→Prop) (W:World)=>∃ (R:Nat→Prop) (c:Code),(∀ k,S k↔(R k∨k=D∨k=D + 1))∧¬ R D∧¬ R (D + 1)∧Ix c x R W∧W.heap[D + 1]?=some (.loop (rec .done (some c)))∧W.heap[D]?=some (.deferred (some []))):=by
   refine ⟨fun x S W h k hk=>?_,fun x S W W' h q same=>?_⟩
   ·obtain ⟨R,c,hR,r1,r2,hi,hl,hd⟩:=h
    rcases (hR k).1 hk with z | rfl | rfl
    ·exact (hIx c).lt _ _ _ hi k z
    ·exact ⟨hnw,lt2 hd⟩
    ·exact ⟨by omega,lt2 hl⟩
   ·obtain ⟨R,c,hR,r1,r2,hi,hl,hd⟩:=h
    exact ⟨R,c,hR,r1,r2,(hIx c).on _ _ _ _ hi q (fun k hk=>same k ((hR k).2 (Or.inl hk))),(same _ ((hR _).2 (Or.inr (Or.inr rfl)))).trans hl,(same _ ((hR _).2 (Or.inr (Or.inl rfl)))).trans hd⟩
  refine callsIn_wide.2 ((hseq σ f _ _ (D + 1) x0 (fun k=>S0 k∨k=D∨k=D + 1) W1 FJ FX ?_ ⟨S0,fun k=>Iff.rfl,fun q=>by have:=hs0 _ q;omega,fun q=>by have:=hs0 _ q;omega,hI1,hL1,hK1⟩ (hb0.trans (hB1.mono hnw)) hn0 ?_).mono ?_)
  ·-- one round
   rintro x S W n _ ⟨R,hR,r1,r2,hi,hl,hk⟩ hE
   have hy:=run_yield (P:=P) (args:=(en n)) hl (by rw [hrec];exact (hps n).symm)
   rw [hrec] at hy
   refine ⟨fn,_,assign,body,hy,?_⟩
   have hround:RoundIn Fence.wide m P (D + 1) fn ((ps.zip (en n)).foldl (fun t (p,v)=>t.setIfInBounds p v) a.tmps) assign body W (fun e W'=>e=.returned (.bool (f x n).2)∧∃ S',Gr S W S'∧Kps S W W'∧Out (fun (x:σ) (S:Nat→Prop) (W:World)=>∃ R:Nat→Prop,(∀ k,S k↔(R k∨k=D∨k=D + 1))∧¬ R D∧¬ R (D + 1)∧I x R W∧W.heap[D + 1]?=some (.loop (rec .ready none))∧W.heap[D]?=some (.deferred (some []))) (fun (x:σ) (S:Nat→Prop) (W:World)=>∃ (R:Nat→Prop) (c:Code),(∀ k,S k↔(R k∨k=D∨k=D + 1))∧¬ R D∧¬ R (D + 1)∧Ix c x R W∧W.heap[D + 1]?=some (.loop (rec .done (some c)))∧W.heap[D]?=some (.deferred (some []))) (f x n) S' W'):=by
    refine roundIn_of_wpIn hfn (hassign _ n W _ ?_)
    have hlt:=lt2 hl
    have hdt:=lt2 hk
    refine ⟨_,run_beginRound hl (by rw [hrec]),?_⟩
    obtain ⟨W2,hW2⟩:∃ W2,W.putObj (D + 1) (.loop { rec .ready none with state:=.busy })=W2:=⟨_,rfl⟩
    rw [hW2]
    have K2:Kps S W W2:=by rw [← hW2];exact Kps.put _ ((hR _).2 (Or.inr (Or.inr rfl)))
    have z2:W2.heap.size=W.heap.size:=by rw [← hW2];simp
    have hl2:W2.heap[D + 1]?=some (.loop { rec .ready none with state:=.busy }):=by rw [← hW2];exact World.putObj_heap_same hlt
    have hk2:W2.heap[D]?=some (.deferred (some [])):=by rw [← hW2];exact (World.putObj_heap_other (by omega)).trans hk
    have hi2:I x R W2:=hI.on _ _ _ _ hi (K2.below (fun k hk'=>(FJ.lt x S W ⟨R,hR,r1,r2,hi,hl,hk⟩ k hk').1) (by omega)) (fun k hk'=>by rw [← hW2];exact World.putObj_heap_other (fun e=>r2 (e ▸ hk')))
    refine wpIn_mono (hbody _ x R n W2 hi2 (by omega) hE) ?_
    have fin:∀ (jump:Option Code) (y:σ) (R':Nat→Prop) (W3:World),Gr R W2 R'→Kps R W2 W3→
     (Instr.endRound (D + 1) jump).run P W3=.ok (.bool jump.isNone) (W3.putObj (D + 1) (.loop (rec (if jump.isNone then .ready else .done) jump)))∧
     (W3.putObj (D + 1) (.loop (rec (if jump.isNone then .ready else .done) jump))).heap[D + 1]?=some (.loop (rec (if jump.isNone then .ready else .done) jump))∧
     (W3.putObj (D + 1) (.loop (rec (if jump.isNone then .ready else .done) jump))).heap[D]?=some (.deferred (some []))∧¬ R' D∧¬ R' (D + 1)∧Gr S W (fun k=>R' k∨k=D∨k=D + 1)∧Kps S W (W3.putObj (D + 1) (.loop (rec (if jump.isNone then .ready else .done) jump)))∧
     Below n0 W3 (W3.putObj (D + 1) (.loop (rec (if jump.isNone then .ready else .done) jump)))∧(∀ k,R' k→(W3.putObj (D + 1) (.loop (rec (if jump.isNone then .ready else .done) jump))).heap[k]?=W3.heap[k]?):=fun jump y R' W3 g3 k3=>by
     have hl3:=(k3.block _ (lt2 hl2) r2).trans hl2
     have hk3:=(k3.block _ (lt2 hk2) r1).trans hk2
     have r3:¬ R' D:=fun q=>by
      rcases g3 _ q with z | z
      ·exact r1 z
      ·omega
     have r4:¬ R' (D + 1):=fun q=>by
      rcases g3 _ q with z | z
      ·exact r2 z
      ·omega
     have e3:=run_endRound (P:=P) jump hl3
     refine ⟨?_,World.putObj_heap_same (lt2 hl3),(World.putObj_heap_other (by omega)).trans hk3,r3,r4,?_,?_,?_,?_⟩
     ·rw [hrec] at e3 ⊢;exact e3
     ·rintro k (q | rfl | rfl)
      ·rcases g3 _ q with z | z
       ·exact Or.inl ((hR _).2 (Or.inl z))
       ·exact Or.inr (by omega)
      ·exact Or.inl ((hR _).2 (Or.inr (Or.inl rfl)))
      ·exact Or.inl ((hR _).2 (Or.inr (Or.inr rfl)))
     ·have kA:Kps S W W3:=K2.trans k3 (fun k q=>Or.inl ((hR _).2 (Or.inl q)))
      exact kA.trans (Kps.put (S:=S) _ ((hR _).2 (Or.inr (Or.inr rfl)))) (Gr.refl _ _)
     ·exact (Kps.put (S:=fun k=>k=D + 1) _ rfl).below (fun k e=>by omega) (by have:=k3.size;omega)
     ·exact fun k q=>World.putObj_heap_other (fun e=>r4 (e ▸ q))
    rintro e a3 W3 hp
    cases e with
    | normal=>
      obtain ⟨y,R',e1,g3,k3,hi3⟩:=hp
      obtain ⟨q1,q2,q3,q4,q5,q6,q7,q8,q9⟩:=fin none y R' W3 g3 k3
      refine ⟨_,_,q1,?_⟩
      rw [e1]
      exact ⟨rfl,_,q6,q7,Or.inl ⟨rfl,R',fun k=>Iff.rfl,q4,q5,hI.on _ _ _ _ hi3 q8 q9,q2,q3⟩⟩
    | ret=>
      obtain ⟨y,R',e1,g3,k3,hi3⟩:=hp
      obtain ⟨q1,q2,q3,q4,q5,q6,q7,q8,q9⟩:=fin (some .ret) y R' W3 g3 k3
      refine ⟨_,_,q1,?_⟩
      rw [e1]
      exact ⟨rfl,_,q6,q7,Or.inr ⟨rfl,R',_,fun k=>Iff.rfl,q4,q5,(hIx _).on _ _ _ _ hi3 q8 q9,q2,q3⟩⟩
    | exit id=>
      obtain ⟨y,R',e1,g3,k3,hi3⟩:=hp
      obtain ⟨q1,q2,q3,q4,q5,q6,q7,q8,q9⟩:=fin (some (.exit id)) y R' W3 g3 k3
      refine ⟨_,_,q1,?_⟩
      rw [e1]
      exact ⟨rfl,_,q6,q7,Or.inr ⟨rfl,R',_,fun k=>Iff.rfl,q4,q5,(hIx _).on _ _ _ _ hi3 q8 q9,q2,q3⟩⟩
    | goto t=>
      obtain ⟨y,R',e1,g3,k3,hi3⟩:=hp
      obtain ⟨q1,q2,q3,q4,q5,q6,q7,q8,q9⟩:=fin (some (.goto t)) y R' W3 g3 k3
      refine ⟨_,_,q1,?_⟩
      rw [e1]
      exact ⟨rfl,_,q6,q7,Or.inr ⟨rfl,R',_,fun k=>Iff.rfl,q4,q5,(hIx _).on _ _ _ _ hi3 q8 q9,q2,q3⟩⟩
    | panic ch=>exact hp.elim
    | outgrown=>exact hp.elim
   exact ⟨hround.1,fun c cs _=>hround.2 c cs (by intro d hd;cases hd)⟩
  ·intro k hk
   obtain ⟨t1,t2,t3,t4⟩:=hT k hk
   have t5:k<D:=by have:=hb0.size;omega
   exact ⟨t1,t2,fun q=>(by rcases q with q | e | e;exact t3 q;all_goals omega),(hB1.block k t5).trans t4⟩
  ·rintro e W2 ⟨⟨v,rfl⟩,S',g',k',ho⟩
   have kk:∀ (W3:World) (o:Obj),W3=W2.putObj (D + 1) o→Kps (fun k=>S0 k∨T k) w W3:=fun W3 o e3=>by
    subst e3
    refine ⟨k'.os.trans hB1.os,k'.tape.trans hB1.tape,k'.output.trans hB1.output,?_,fun k hk hS=>?_⟩
    ·have h1:=hB1.size
     have h2:=k'.size
     simp only [World.putObj_size]
     omega
    ·have hk':k<D:=by omega
     refine (World.putObj_heap_other (by omega)).trans (((k'.block k (by have:=hB1.size;omega) ?_)).trans (hB1.block k hk'))
     rintro ((q | rfl | rfl) | q)
     ·exact hS (Or.inl q)
     ·omega
     ·omega
     ·exact hS (Or.inr q)
   have gg:∀ R:Nat→Prop,(∀ k,S' k↔(R k∨k=D∨k=D + 1))→Gr S0 w R:=fun R hR k hk=>by
    rcases g' k ((hR k).2 (Or.inl hk)) with (q | rfl | rfl) | q
    ·exact Or.inl q
    ·exact Or.inr (by omega)
    ·exact Or.inr (by omega)
    ·exact Or.inr (by have:=hB1.size;omega)
   rcases ho with ⟨hr,R,hR,r1,r2,hi,hl,hd⟩ | ⟨hr,R,c,hR,r1,r2,hi,hl,hd⟩
   ·have e4:=run_endLoop (P:=P) hl (by rw [hrec];simp)
    have q8:∀ o,Below n0 W2 (W2.putObj (D + 1) o):=fun o=>(Kps.put (S:=fun k=>k=D + 1) _ rfl).below (fun k e=>by omega) (by have:=lt2 hl;omega)
    have q9:∀ o k,R k→(W2.putObj (D + 1) o).heap[k]?=W2.heap[k]?:=fun o k q=>World.putObj_heap_other (fun e=>r2 (e ▸ q))
    rw [show (rec .ready none).pending=none by rw [hrec]] at e4
    refine ⟨none,_,e4,?_⟩
    exact hdone D (run f x0 xs).1 R _ (by omega) r1 (by rw [← hr]) (hI.on _ _ _ _ hi (q8 _) (q9 _)) (gg R hR) (kk _ _ rfl) ((World.putObj_heap_other (by omega)).trans hd)
   ·have e4:=run_endLoop (P:=P) hl (by rw [hrec];simp)
    have q8:∀ o,Below n0 W2 (W2.putObj (D + 1) o):=fun o=>(Kps.put (S:=fun k=>k=D + 1) _ rfl).below (fun k e=>by omega) (by have:=lt2 hl;omega)
    have q9:∀ o k,R k→(W2.putObj (D + 1) o).heap[k]?=W2.heap[k]?:=fun o k q=>World.putObj_heap_other (fun e=>r2 (e ▸ q))
    rw [show (rec .done (some c)).pending=some c by rw [hrec]] at e4
    refine ⟨some c,_,e4,?_⟩
    exact hstop D c (run f x0 xs).1 R _ (by omega) r1 (by rw [← hr]) ((hIx c).on _ _ _ _ hi (q8 _) (q9 _)) (gg R hR) (kk _ _ rfl) ((World.putObj_heap_other (by omega)).trans hd)
end Sg
end Go.Proofs.YtcadomjkjoiakaaGreatDoor
