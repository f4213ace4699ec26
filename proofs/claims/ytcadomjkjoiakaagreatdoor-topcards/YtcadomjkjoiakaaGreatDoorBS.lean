/-
  Texts of our own that serve the card of this claim, joined into one.
-/
import Derived.Test.YtcadomjkjoiakaaGreatDoorDE
import Derived.Test.YtcadomjkjoiakaaGreatDoorBF
import Derived.Test.YtcadomjkjoiakaaGreatDoorPU
namespace Go.Proofs.YtcadomjkjoiakaaGreatDoor
open Go.RowKit Cal Txt
structure Apt (b:Nat) (w W:World):Prop where
 os:W.os=w.os
 tape:W.tape=w.tape
 output:W.output=w.output
 size:w.heap.size≤W.heap.size
 block:∀ k,k<w.heap.size→k≠b→W.heap[k]?=w.heap[k]?
theorem Apt.refl (b:Nat) (w:World):Apt b w w:=⟨rfl,rfl,rfl,Nat.le_refl _,fun _ _ _=>rfl⟩
theorem Apt.trans {b:Nat} {w W V:World} (h:Apt b w W) (k:Apt b W V):Apt b w V:=
 ⟨k.os.trans h.os,k.tape.trans h.tape,k.output.trans h.output,Nat.le_trans h.size k.size,fun i hi hn=>(k.block i (Nat.lt_of_lt_of_le hi h.size) hn).trans (h.block i hi hn)⟩
theorem apt_below {w W:World} (b:Nat) (q:Below w.heap.size w W):Apt b w W:=⟨q.os,q.tape,q.output,q.size,fun k hk _=>q.block k hk⟩
theorem Apt.below {b n0:Nat} {w W:World} (h:Apt b w W) (hb:n0≤b) (hn:n0≤w.heap.size):Below n0 w W:=⟨h.os,h.tape,h.output,h.size,fun k hk=>h.block k (by omega) (by omega)⟩
theorem Apt.cell {b:Nat} {w W:World} (h:Apt b w W) {p:Addr} (hp:p.block<w.heap.size) (hn:p.block≠b):W.cell? p=w.cell? p:=by simp [World.cell?,h.block p.block hp hn]
theorem apt_set (b o:Nat) (v:Value) (w:World):Apt b w (w.setCell ⟨b,o,none⟩ v):=
 ⟨rfl,rfl,rfl,by simp,fun k _ hn=>Below.heap_setCell w ⟨b,o,none⟩ v k hn⟩
theorem apt_cells (b:Nat):∀ (vs:List Value) (o:Nat) (w:World),Apt b w (w.setCells b o vs)
 | [],_,w=>Apt.refl b w
 | v :: r,o,w=>(apt_set b o v w).trans (apt_cells b r (o + 1) _)
def Hol2 (w:World) (b off:Nat) (l:List (Int × Int)):Prop:=∀ j,j<l.length→(w.cell? ⟨b,off + j * 2,none⟩=some (.int .i64 (l.getD j (0,0)).1)∧w.cell? ⟨b,off + j * 2 + 1,none⟩=some (.int .i64 (l.getD j (0,0)).2))∧w.frozen? ⟨b,off + j * 2,none⟩=false∧w.frozen? ⟨b,off + j * 2 + 1,none⟩=false
theorem Hol2.lt {w:World} {b off:Nat} {l:List (Int × Int)} (h:Hol2 w b off l) (h0:0<l.length):b<w.heap.size:=ecell_in (h 0 h0).1.1
theorem Hol2.on {w W:World} {b off:Nat} {l:List (Int × Int)} (h:Hol2 w b off l) (q:Below w.heap.size w W):Hol2 W b off l:=fun j hj=>by
 obtain ⟨⟨c1,c2⟩,f1,f2⟩:=h j hj
 have hb:b<w.heap.size:=ecell_in c1
 obtain ⟨c,f⟩:=bcell q
 exact ⟨⟨(c _ _ hb).trans c1,(c _ _ hb).trans c2⟩,(f _ _ hb).trans f1,(f _ _ hb).trans f2⟩
theorem Hol2.nths {w:World} {b off cap:Nat} {l:List (Int × Int)} (h:Hol2 w b off l):Nths w (.slice (some ⟨b,off,none⟩) l.length cap) l:=⟨_,_,rfl,Or.inr ⟨b,off,rfl,fun i hi=>(h i hi).1⟩⟩
theorem Hol2.take {w:World} {b off:Nat} {l:List (Int × Int)} (h:Hol2 w b off l) (i:Nat):Hol2 w b off (l.take i):=fun j hj=>by
 rw [List.length_take] at hj
 have:=h j (by omega)
 rwa [List.getD_eq_getElem?_getD,List.getElem?_take,if_pos (by omega),← List.getD_eq_getElem?_getD]
theorem Hol2.there {w:World} {b off:Nat} {l:List (Int × Int)} (h:Hol2 w b off l) {i:Nat} (hi:i<l.length):w.there b (off + i * 2) 2:=fun j hj=>by
 obtain ⟨⟨c1,c2⟩,f1,f2⟩:=h i hi
 rcases (by omega:j=0∨j=1) with rfl | rfl
 ·exact ⟨by rw [Nat.add_zero,c1];rfl,by rw [Nat.add_zero];exact f1⟩
 ·exact ⟨by rw [c2];rfl,f2⟩
theorem Hol2.store {w:World} {b off:Nat} {l:List (Int × Int)} (h:Hol2 w b off l) {i:Nat} (hi:i<l.length) (x:Int × Int):Hol2 (w.setCells b (off + i * 2) [.int .i64 x.1,.int .i64 x.2]) b off (l.set i x):=fun j hj=>by
 rw [List.length_set] at hj
 have hr:=World.rangeAt_setCells_same w b (off + i * 2) [.int .i64 x.1,.int .i64 x.2] (h.there hi)
 rw [World.frozen?_setCells,World.frozen?_setCells]
 refine ⟨?_,(h j hj).2⟩
 by_cases e:j=i
 ·subst e
  have e2:(l.set j x).getD j (0,0)=x:=by rw [List.getD_eq_getElem?_getD,List.getElem?_set_self hj];rfl
  rw [e2]
  exact ⟨hr 0 _ rfl,hr 1 _ rfl⟩
 ·have e2:(l.set i x).getD j (0,0)=l.getD j (0,0):=by rw [List.getD_eq_getElem?_getD,List.getElem?_set_ne (by omega),← List.getD_eq_getElem?_getD]
  rw [e2,World.cell?_setCells_out _ _ _ _ _ (fun _ _=>by simp;omega),World.cell?_setCells_out _ _ _ _ _ (fun _ _=>by simp;omega)]
  exact (h j hj).1
theorem Hol2.cut {w:World} {b off:Nat} {l:List (Int × Int)} (h:Hol2 w b off l) (i:Nat) (vs:List Value):Hol2 (w.setCells b (off + i * 2) vs) b off (l.take i):=fun j hj=>by
 have hj2:=hj
 rw [List.length_take] at hj2
 rw [World.frozen?_setCells,World.frozen?_setCells,World.cell?_setCells_out _ _ _ _ _ (fun _ _=>Or.inl (by show off + j * 2<off + i * 2;omega)),World.cell?_setCells_out _ _ _ _ _ (fun _ _=>Or.inl (by show off + j * 2 + 1<off + i * 2;omega))]
 exact (h.take i) j hj
theorem run_clear2 (w:World) (ty:TypeId) (b o n c:Nat) (hn:0<n) (hc:∀ j,j<n * 2→(w.cell? ⟨b,o + j,none⟩).isSome=true) (hf:∀ j,j<n * 2→w.frozen? ⟨b,o + j,none⟩=false) :
 (Builtin.clear_ #[29] ty #[.slice (some ⟨b,o,none⟩) n c]).run Tryz.prog w=.ok (.tuple #[]) (w.setCells b o (List.replicate (n * 2) (.int .i64 0))):=by
 have hv:∀ w,(zeroValue 97).run Tryz.prog w=.ok (.agg #[.int .i64 0,.int .i64 0]) w:=fun _=>by kernel_rfl
 have hzc:(Builtin.zeroCells (Value.agg #[.int .i64 0,.int .i64 0]).cells n).toList=List.replicate (n * 2) (.int .i64 0):=by
  show (Builtin.zeroCells #[.int .i64 0,.int .i64 0] n).toList=_
  simp only [Builtin.zeroCells,Array.toList_map]
  apply List.ext_getElem
  ·simp
  ·intro i h1 h2
   simp
   rcases (by omega:i % 2=0∨i % 2=1) with q | q <;> simp [q]
 have hst:=run_storeCells_cells (P:=Tryz.prog) b o (List.replicate (n * 2) (.int .i64 0)) 0 w (by simpa using hc) (by simpa using hf) (by intro v hv';rw [List.eq_of_mem_replicate hv'];rfl)
 simp only [Nat.add_zero] at hst
 obtain ⟨m,rfl⟩:∃ m,n=m + 1:=⟨n - 1,by omega⟩
 simp [Builtin.clear_,run_underlying Tryz.underlying29,hv,hzc,hst]
theorem Hol2.cellsAt {w:World} {b off:Nat} {l:List (Int × Int)} (h:Hol2 w b off l) (i:Nat) (j:Nat) (hj:j<(l.length - i) * 2):(w.cell? ⟨b,off + i * 2 + j,none⟩).isSome=true∧w.frozen? ⟨b,off + i * 2 + j,none⟩=false:=by
 obtain ⟨⟨c1,c2⟩,f1,f2⟩:=h (i + j / 2) (by omega)
 rcases (by omega:j % 2=0∨j % 2=1) with q | q
 ·rw [show off + i * 2 + j=off + (i + j / 2) * 2 by omega]
  exact ⟨by rw [c1];rfl,f1⟩
 ·rw [show off + i * 2 + j=off + (i + j / 2) * 2 + 1 by omega]
  exact ⟨by rw [c2];rfl,f2⟩
def DInv2 (l:List (Int × Int)) (p:Int × Int→Bool) (j i:Nat) (d:List (Int × Int)):Prop:=
 d.length=l.length∧i<j∧j≤l.length∧d.take i=(l.take j).filter (fun x=>!p x)∧∀ t,j≤t→d.getD t (0,0)=l.getD t (0,0)
theorem DInv2.begin {l:List (Int × Int)} {p:Int × Int→Bool} {k:Nat} (hk:k<l.length) (ha:(l.take k).any p=false) (hp:p (l.getD k (0,0))=true):DInv2 l p (k + 1) k l:=by
 refine ⟨rfl,by omega,by omega,?_,fun t _=>rfl⟩
 rw [List.take_succ_eq_append_getElem hk,List.filter_append]
 rw [List.getD_eq_getElem?_getD,List.getElem?_eq_getElem hk] at hp
 have hp':p l[k]=true:=hp
 rw [List.filter_eq_self.2 (fun x hx=>by have:=List.any_eq_false.1 ha x hx;simpa using this)]
 simp [hp']
theorem DInv2.skip {l:List (Int × Int)} {p:Int × Int→Bool} {j i:Nat} {d:List (Int × Int)} (h:DInv2 l p j i d) (hj:j<l.length) (hp:p (l.getD j (0,0))=true):DInv2 l p (j + 1) i d:=by
 obtain ⟨a,b,c,e,f⟩:=h
 refine ⟨a,by omega,by omega,?_,fun t ht=>f t (by omega)⟩
 rw [List.getD_eq_getElem?_getD,List.getElem?_eq_getElem hj] at hp
 have hp':p l[j]=true:=hp
 rw [List.take_succ_eq_append_getElem hj,List.filter_append,← e]
 simp [hp']
theorem DInv2.keep {l:List (Int × Int)} {p:Int × Int→Bool} {j i:Nat} {d:List (Int × Int)} (h:DInv2 l p j i d) (hj:j<l.length) (hp:p (l.getD j (0,0))=false):DInv2 l p (j + 1) (i + 1) (d.set i (l.getD j (0,0))):=by
 obtain ⟨a,b,c,e,f⟩:=h
 refine ⟨by simpa using a,by omega,by omega,?_,fun t ht=>?_⟩
 ·rw [List.take_succ_eq_append_getElem (l:=l) hj,List.filter_append,← e]
  rw [List.getD_eq_getElem?_getD,List.getElem?_eq_getElem hj] at hp ⊢
  have hp':p l[j]=false:=hp
  rw [List.take_succ_eq_append_getElem (by rw [List.length_set];omega),List.take_set_of_le (Nat.le_refl _)]
  simp [hp']
 ·rw [List.getD_eq_getElem?_getD,List.getElem?_set_ne (by omega),← List.getD_eq_getElem?_getD]
  exact f t (by omega)
theorem DInv2.done {l:List (Int × Int)} {p:Int × Int→Bool} {i:Nat} {d:List (Int × Int)} (h:DInv2 l p l.length i d):d.take i=l.filter (fun x=>!p x):=by
 have:=h.2.2.2.1
 rwa [List.take_length] at this
theorem any_tk2 (p:Int × Int→Bool) (l:List (Int × Int)) (k:Nat) (h:k<l.length) (ha:(l.take k).any p=false) (hp:p (l.getD k (0,0))=false):(l.take (k + 1)).any p=false:=by
 rw [List.take_succ_eq_append_getElem h,List.any_append,ha,List.any_cons,List.any_nil]
 rw [List.getD_eq_getElem?_getD,List.getElem?_eq_getElem h] at hp
 simpa using hp
end Go.Proofs.YtcadomjkjoiakaaGreatDoor
namespace Go.Proofs.YtcadomjkjoiakaaGreatDoor
open Go.RowKit Cal Txt
theorem ch_store {ops:Array Oper} {rest:List Oper} {op:Oper} {a:Act} {W:World} {Q:Exit→Act→World→Prop} (hgd:op.guard=none) (x y:Operand) (ho:op.op=.store 97 x y) (hd:op.dst=none)
 (b o:Nat) (c:Int × Int) (hx:a.eval x=.pointer (some ⟨b,o,none⟩)) (hy:a.eval y=.agg #[.int .i64 c.1,.int .i64 c.2]) (ht:W.there b o 2)
 (h:wpList Tryz.prog ops Q rest a (W.setCells b o [.int .i64 c.1,.int .i64 c.2])):wpList Tryz.prog ops Q (op :: rest) a W:=by
 refine wpList_store_mid hgd 97 x y ho b o #[.int .i64 c.1,.int .i64 c.2] hx hy ht (by kernel_rfl) (by simp [Value.oneCell']) ?_
 rw [hd]
 exact h
def ClA (b:Nat) (w:World) (c1 c2:Value) (p:Int × Int→Bool):Prop:=
 ∀ (c:Int × Int) (W:World),Apt b w W→Calls Tryz.prog 124 #[.agg #[.int .i64 c.1,.int .i64 c.2],c1,c2] W fun e w'=>e=.returned (.bool (p c))∧Below W.heap.size W w'
set_option maxRecDepth 100000 in
set_option maxHeartbeats 1000000 in
theorem idxA (c1 c2:Value) (p:Int × Int→Bool) (l:List (Int × Int)) (b off cap:Nat) (w:World) (hC:ClA b w c1 c2 p) (hh:Hol2 w b off l) (hl:l.length≤1000000) :
 Calls Tryz.prog 184 #[.slice (some ⟨b,off,none⟩) l.length cap,.func (.func 124) #[] #[c1,c2]] w fun e w'=>Below w.heap.size w w'∧
  ((e=.returned (.int .i64 (-1))∧l.any p=false)∨∃ k:Nat,e=.returned (.int .i64 k)∧k<l.length∧(l.take k).any p=false∧p (l.getD k (0,0))=true):=by
 have HH:=Lib.hid hh
 have HC:=Lib.hid hC
 clear hh hC
 have eg:∀ args w,(callFunc 124 args).run Tryz.prog w=.ok (.enter 124 args) w:=enters_of Tryz.func124 (by kernel_rfl) rfl
 go_enter Tryz.func184,Tryz.ntmps184
 go_wp2
 go_loopw [8] (fun i wr=>∃ k:Nat,k≤l.length∧i=.int .i64 k∧(l.take k).any p=false∧Below w.heap.size w wr) (fun i _=>l.length - (intOf i).toNat)
 case atStart=>exact ⟨0,Nat.zero_le _,rfl,rfl,Below.refl _ _⟩
 case round=>
  obtain ⟨k,hk,rfl,hF,hB⟩:=hrel
  have HF:=Lib.hid hF
  have HB:=Lib.hid hB
  clear hF
  by_cases hlt:k<l.length
  ·obtain ⟨⟨k1,k2⟩,_,_⟩:=(HH.out.on hB) k hlt
   have bl:=ecell_in k1
   have K:=Lib.hid (HC.out (l.getD k (0,0)) wr (apt_below b hB))
   obtain ⟨X,hX⟩:∃ X,X=l.getD k (0,0):=⟨_,rfl⟩
   rw [← hX] at k1 k2 K
   have HX:=Lib.hid hX
   clear hX hB
   go_wp2_with fail
   refine K.out.mono ?_
   rintro e w2 ⟨rfl,hb⟩
   have HB2:=Lib.hid (HB.out.trans (hb.mono HB.out.size))
   clear hb K k1 k2 bl
   rcases hp:p X with _ | _
   ·have N1:=Lib.hid (any_tk2 p l k hlt HF.out (by rw [← HX.out];exact hp))
    go_wp2
    go_roundw
    case rel=>exact ⟨k + 1,by omega,by go_num,N1.out,HB2.out⟩
    case measure=>simp [intOf];omega
   ·have N1:Hid (p (l.getD k (0,0))=true):=Lib.hid (by rw [← HX.out];exact hp)
    go_wp2
    go_ret
    exact ⟨HB2.out,Or.inr ⟨k,rfl,hlt,HF.out,N1.out⟩⟩
  ·have N1:Hid (l.any p=false):=Lib.hid (by have:=HF.out;rwa [List.take_of_length_le (by omega)] at this)
   go_wp2
   go_ret
   exact ⟨HB.out,Or.inl ⟨rfl,N1.out⟩⟩
set_option maxRecDepth 100000 in
set_option maxHeartbeats 4000000 in
theorem delA (c1 c2:Value) (p:Int × Int→Bool) (l:List (Int × Int)) (b off cap:Nat) (w:World) (hC:ClA b w c1 c2 p) (hh:Hol2 w b off l) (h0:0<l.length) (hcap:l.length≤cap) (hl:l.length≤1000000) :
 Calls Tryz.prog 125 #[.slice (some ⟨b,off,none⟩) l.length cap,.func (.func 124) #[] #[c1,c2]] w fun e w'=>e=.returned (.slice (some ⟨b,off,none⟩) (l.filter (fun x=>!p x)).length cap)∧Hol2 w' b off (l.filter (fun x=>!p x))∧Apt b w w':=by
 have K:=Lib.hid (idxA c1 c2 p l b off cap w hC hh hl)
 have HH:=Lib.hid hh
 have HC:=Lib.hid hC
 clear hh hC
 have eg:∀ args w,(callFunc 124 args).run Tryz.prog w=.ok (.enter 124 args) w:=enters_of Tryz.func124 (by kernel_rfl) rfl
 go_enter Tryz.func125,Tryz.ntmps125
 go_wp2_with fail
 refine K.out.mono ?_
 rintro e w1 ⟨hb1,hx⟩
 have B1:=Lib.hid hb1
 clear K hb1
 rcases hx with ⟨rfl,ha⟩ | ⟨k,rfl,hk,ha,hp⟩
 ·have N:Hid (l.filter (fun x=>!p x)=l):=Lib.hid (List.filter_eq_self.2 (fun x hx=>by have:=List.any_eq_false.1 ha x hx;simpa using this))
  clear ha
  go_wp2
  go_ret
  exact ⟨by rw [N.out];rfl,by rw [N.out];exact HH.out.on B1.out,apt_below b B1.out⟩
 ·have D0:=Lib.hid (DInv2.begin hk ha hp)
  have nk:((k:Int) == -1)=false:=by simp
  clear ha hp
  go_wp2_with fail
  go_loopw [5,6,7] (fun iv jv _ wr=>∃ (i j:Nat) (d:List (Int × Int)),iv=.int .i64 i∧jv=.int .i64 j∧DInv2 l p j i d∧Hol2 wr b off d∧Apt b w wr) (fun _ jv _ _=>l.length - (intOf jv).toNat)
  case atStart=>exact ⟨k,k + 1,l,rfl,by go_num,D0.out,HH.out.on B1.out,apt_below b B1.out⟩
  case round=>
   obtain ⟨i,j,d,rfl,rfl,hD,hh,hB⟩:=hrel
   have ij:=hD.2.1
   have jl:=hD.2.2.1
   have dl:=hD.1
   have HD:=Lib.hid hD
   have HHd:=Lib.hid hh
   have HB:=Lib.hid hB
   have bw:=hh.lt (by omega)
   clear hD hh hB D0 B1
   by_cases hlt:j<l.length
   ·obtain ⟨⟨k1,k2⟩,_,_⟩:=HHd.out j (by omega)
    rw [HD.out.2.2.2.2 j (Nat.le_refl _)] at k1 k2
    obtain ⟨X,hX⟩:∃ X,X=l.getD j (0,0):=⟨_,rfl⟩
    rw [← hX] at k1 k2
    have HX:=Lib.hid hX
    have T3:=Two.new wr X.1 X.2 97
    have b3:Below wr.heap.size wr (wr.alloc (.cells #[.int .i64 X.1,.int .i64 X.2] 97)):=(Below.refl _ _).alloc (Nat.le_refl _) _
    obtain ⟨W3,hW3⟩:∃ W3,W3=wr.alloc (.cells #[.int .i64 X.1,.int .i64 X.2] 97):=⟨_,rfl⟩
    rw [← hW3] at T3 b3
    have HW3:=Lib.hid hW3
    have HT3:=Lib.hid T3
    have B3:=Lib.hid b3
    have K:=Lib.hid (HC.out X W3 (HB.out.trans (apt_below b b3)))
    clear hX hW3 T3 b3
    go_upto_region 8 with fail
    rw [← HW3.out]
    clear HW3 k1 k2
    have t0:=HT3.out.1
    have t1:=HT3.out.2
    have tl:=HT3.out.lt
    go_wp2_with fail
    clear t0 t1 tl
    refine K.out.mono ?_
    rintro e w4 ⟨rfl,hb⟩
    have B4:=Lib.hid (B3.out.trans (hb.mono B3.out.size))
    have t0:=(HT3.out.on hb).1
    have t1:=(HT3.out.on hb).2
    have tl:=(HT3.out.on hb).lt
    clear hb K B3 HT3
    have H4:=Lib.hid (HHd.out.on B4.out)
    have A4:=Lib.hid (HB.out.trans (apt_below b B4.out))
    rcases hp:p X with _ | _
    ·have N1:=Lib.hid (HD.out.keep hlt (by rw [← HX.out];exact hp))
     rw [← HX.out] at N1
     have SH:=Lib.hid (H4.out.store (i:=i) (by omega) X)
     have SA:=Lib.hid (A4.out.trans (apt_cells b [.int .i64 X.1,.int .i64 X.2] (off + i * 2) w4))
     have TH:=Lib.hid (H4.out.there (i:=i) (by omega))
     go_wp2_with (refine ch_store ?s1 (.tmp 33) (.tmp 32) ?s2 ?s9 b (off + i * 2) X ?s3 ?s4 TH.out ?s5;(case s1=>rfl);(case s2=>rfl);(case s9=>rfl);(case s3=>rfl);(case s4=>rfl))
     go_roundw
     case rel=>exact ⟨i + 1,j + 1,d.set i X,by go_num,by go_num,N1.out,SH.out,SA.out⟩
     case measure=>simp [intOf];omega
    ·have N1:=Lib.hid (HD.out.skip hlt (by rw [← HX.out];exact hp))
     go_wp2
     go_roundw
     case rel=>exact ⟨i,j + 1,d,rfl,by go_num,N1.out,H4.out,A4.out⟩
     case measure=>simp [intOf];omega
   ·obtain rfl:j=l.length:=by omega
    have hcl:∀ ty,(Builtin.clear_ #[29] ty #[.slice (some ⟨b,off + i * 2,none⟩) (l.length - i) (cap - i)]).run Tryz.prog wr=.ok (.tuple #[]) (wr.setCells b (off + i * 2) (List.replicate ((l.length - i) * 2) (.int .i64 0))):=
     fun ty=>run_clear2 wr ty b (off + i * 2) _ _ (by omega) (fun t ht=>(HHd.out.cellsAt i t (by omega)).1) (fun t ht=>(HHd.out.cellsAt i t (by omega)).2)
    have S:=HHd.out.cut i (List.replicate ((l.length - i) * 2) (.int .i64 0))
    have N:=HD.out.done
    have N2:Hid ((l.filter (fun x=>!p x)).length=i):=Lib.hid (by rw [← N,List.length_take];omega)
    rw [N] at S
    have SH:=Lib.hid S
    have SA:=Lib.hid (HB.out.trans (apt_cells b (List.replicate ((l.length - i) * 2) (.int .i64 0)) (off + i * 2) wr))
    clear S N
    go_wp2
    go_ret
    exact ⟨by rw [N2.out];rfl,SH.out,SA.out⟩
def ClB (b:Nat) (w:World) (c1:Value) (p:Int × Int→Bool):Prop:=
 ∀ (c:Int × Int) (W:World),Apt b w W→Calls Tryz.prog 128 #[.agg #[.int .i64 c.1,.int .i64 c.2],c1] W fun e w'=>e=.returned (.bool (p c))∧Below W.heap.size W w'
set_option maxRecDepth 100000 in
set_option maxHeartbeats 1000000 in
theorem idxB (c1:Value) (p:Int × Int→Bool) (l:List (Int × Int)) (b off cap:Nat) (w:World) (hC:ClB b w c1 p) (hh:Hol2 w b off l) (hl:l.length≤1000000) :
 Calls Tryz.prog 184 #[.slice (some ⟨b,off,none⟩) l.length cap,.func (.func 128) #[] #[c1]] w fun e w'=>Below w.heap.size w w'∧
  ((e=.returned (.int .i64 (-1))∧l.any p=false)∨∃ k:Nat,e=.returned (.int .i64 k)∧k<l.length∧(l.take k).any p=false∧p (l.getD k (0,0))=true):=by
 have HH:=Lib.hid hh
 have HC:=Lib.hid hC
 clear hh hC
 have eg:∀ args w,(callFunc 128 args).run Tryz.prog w=.ok (.enter 128 args) w:=enters_of Tryz.func128 (by kernel_rfl) rfl
 go_enter Tryz.func184,Tryz.ntmps184
 go_wp2
 go_loopw [8] (fun i wr=>∃ k:Nat,k≤l.length∧i=.int .i64 k∧(l.take k).any p=false∧Below w.heap.size w wr) (fun i _=>l.length - (intOf i).toNat)
 case atStart=>exact ⟨0,Nat.zero_le _,rfl,rfl,Below.refl _ _⟩
 case round=>
  obtain ⟨k,hk,rfl,hF,hB⟩:=hrel
  have HF:=Lib.hid hF
  have HB:=Lib.hid hB
  clear hF
  by_cases hlt:k<l.length
  ·obtain ⟨⟨k1,k2⟩,_,_⟩:=(HH.out.on hB) k hlt
   have bl:=ecell_in k1
   have K:=Lib.hid (HC.out (l.getD k (0,0)) wr (apt_below b hB))
   obtain ⟨X,hX⟩:∃ X,X=l.getD k (0,0):=⟨_,rfl⟩
   rw [← hX] at k1 k2 K
   have HX:=Lib.hid hX
   clear hX hB
   go_wp2_with fail
   refine K.out.mono ?_
   rintro e w2 ⟨rfl,hb⟩
   have HB2:=Lib.hid (HB.out.trans (hb.mono HB.out.size))
   clear hb K k1 k2 bl
   rcases hp:p X with _ | _
   ·have N1:=Lib.hid (any_tk2 p l k hlt HF.out (by rw [← HX.out];exact hp))
    go_wp2
    go_roundw
    case rel=>exact ⟨k + 1,by omega,by go_num,N1.out,HB2.out⟩
    case measure=>simp [intOf];omega
   ·have N1:Hid (p (l.getD k (0,0))=true):=Lib.hid (by rw [← HX.out];exact hp)
    go_wp2
    go_ret
    exact ⟨HB2.out,Or.inr ⟨k,rfl,hlt,HF.out,N1.out⟩⟩
  ·have N1:Hid (l.any p=false):=Lib.hid (by have:=HF.out;rwa [List.take_of_length_le (by omega)] at this)
   go_wp2
   go_ret
   exact ⟨HB.out,Or.inl ⟨rfl,N1.out⟩⟩
set_option maxRecDepth 100000 in
set_option maxHeartbeats 4000000 in
theorem delB (c1:Value) (p:Int × Int→Bool) (l:List (Int × Int)) (b off cap:Nat) (w:World) (hC:ClB b w c1 p) (hh:Hol2 w b off l) (h0:0<l.length) (hcap:l.length≤cap) (hl:l.length≤1000000) :
 Calls Tryz.prog 125 #[.slice (some ⟨b,off,none⟩) l.length cap,.func (.func 128) #[] #[c1]] w fun e w'=>e=.returned (.slice (some ⟨b,off,none⟩) (l.filter (fun x=>!p x)).length cap)∧Hol2 w' b off (l.filter (fun x=>!p x))∧Apt b w w':=by
 have K:=Lib.hid (idxB c1 p l b off cap w hC hh hl)
 have HH:=Lib.hid hh
 have HC:=Lib.hid hC
 clear hh hC
 have eg:∀ args w,(callFunc 128 args).run Tryz.prog w=.ok (.enter 128 args) w:=enters_of Tryz.func128 (by kernel_rfl) rfl
 go_enter Tryz.func125,Tryz.ntmps125
 go_wp2_with fail
 refine K.out.mono ?_
 rintro e w1 ⟨hb1,hx⟩
 have B1:=Lib.hid hb1
 clear K hb1
 rcases hx with ⟨rfl,ha⟩ | ⟨k,rfl,hk,ha,hp⟩
 ·have N:Hid (l.filter (fun x=>!p x)=l):=Lib.hid (List.filter_eq_self.2 (fun x hx=>by have:=List.any_eq_false.1 ha x hx;simpa using this))
  clear ha
  go_wp2
  go_ret
  exact ⟨by rw [N.out];rfl,by rw [N.out];exact HH.out.on B1.out,apt_below b B1.out⟩
 ·have D0:=Lib.hid (DInv2.begin hk ha hp)
  have nk:((k:Int) == -1)=false:=by simp
  clear ha hp
  go_wp2_with fail
  go_loopw [5,6,7] (fun iv jv _ wr=>∃ (i j:Nat) (d:List (Int × Int)),iv=.int .i64 i∧jv=.int .i64 j∧DInv2 l p j i d∧Hol2 wr b off d∧Apt b w wr) (fun _ jv _ _=>l.length - (intOf jv).toNat)
  case atStart=>exact ⟨k,k + 1,l,rfl,by go_num,D0.out,HH.out.on B1.out,apt_below b B1.out⟩
  case round=>
   obtain ⟨i,j,d,rfl,rfl,hD,hh,hB⟩:=hrel
   have ij:=hD.2.1
   have jl:=hD.2.2.1
   have dl:=hD.1
   have HD:=Lib.hid hD
   have HHd:=Lib.hid hh
   have HB:=Lib.hid hB
   have bw:=hh.lt (by omega)
   clear hD hh hB D0 B1
   by_cases hlt:j<l.length
   ·obtain ⟨⟨k1,k2⟩,_,_⟩:=HHd.out j (by omega)
    rw [HD.out.2.2.2.2 j (Nat.le_refl _)] at k1 k2
    obtain ⟨X,hX⟩:∃ X,X=l.getD j (0,0):=⟨_,rfl⟩
    rw [← hX] at k1 k2
    have HX:=Lib.hid hX
    have T3:=Two.new wr X.1 X.2 97
    have b3:Below wr.heap.size wr (wr.alloc (.cells #[.int .i64 X.1,.int .i64 X.2] 97)):=(Below.refl _ _).alloc (Nat.le_refl _) _
    obtain ⟨W3,hW3⟩:∃ W3,W3=wr.alloc (.cells #[.int .i64 X.1,.int .i64 X.2] 97):=⟨_,rfl⟩
    rw [← hW3] at T3 b3
    have HW3:=Lib.hid hW3
    have HT3:=Lib.hid T3
    have B3:=Lib.hid b3
    have K:=Lib.hid (HC.out X W3 (HB.out.trans (apt_below b b3)))
    clear hX hW3 T3 b3
    go_upto_region 8 with fail
    rw [← HW3.out]
    clear HW3 k1 k2
    have t0:=HT3.out.1
    have t1:=HT3.out.2
    have tl:=HT3.out.lt
    go_wp2_with fail
    clear t0 t1 tl
    refine K.out.mono ?_
    rintro e w4 ⟨rfl,hb⟩
    have B4:=Lib.hid (B3.out.trans (hb.mono B3.out.size))
    have t0:=(HT3.out.on hb).1
    have t1:=(HT3.out.on hb).2
    have tl:=(HT3.out.on hb).lt
    clear hb K B3 HT3
    have H4:=Lib.hid (HHd.out.on B4.out)
    have A4:=Lib.hid (HB.out.trans (apt_below b B4.out))
    rcases hp:p X with _ | _
    ·have N1:=Lib.hid (HD.out.keep hlt (by rw [← HX.out];exact hp))
     rw [← HX.out] at N1
     have SH:=Lib.hid (H4.out.store (i:=i) (by omega) X)
     have SA:=Lib.hid (A4.out.trans (apt_cells b [.int .i64 X.1,.int .i64 X.2] (off + i * 2) w4))
     have TH:=Lib.hid (H4.out.there (i:=i) (by omega))
     go_wp2_with (refine ch_store ?s1 (.tmp 33) (.tmp 32) ?s2 ?s9 b (off + i * 2) X ?s3 ?s4 TH.out ?s5;(case s1=>rfl);(case s2=>rfl);(case s9=>rfl);(case s3=>rfl);(case s4=>rfl))
     go_roundw
     case rel=>exact ⟨i + 1,j + 1,d.set i X,by go_num,by go_num,N1.out,SH.out,SA.out⟩
     case measure=>simp [intOf];omega
    ·have N1:=Lib.hid (HD.out.skip hlt (by rw [← HX.out];exact hp))
     go_wp2
     go_roundw
     case rel=>exact ⟨i,j + 1,d,rfl,by go_num,N1.out,H4.out,A4.out⟩
     case measure=>simp [intOf];omega
   ·obtain rfl:j=l.length:=by omega
    have hcl:∀ ty,(Builtin.clear_ #[29] ty #[.slice (some ⟨b,off + i * 2,none⟩) (l.length - i) (cap - i)]).run Tryz.prog wr=.ok (.tuple #[]) (wr.setCells b (off + i * 2) (List.replicate ((l.length - i) * 2) (.int .i64 0))):=
     fun ty=>run_clear2 wr ty b (off + i * 2) _ _ (by omega) (fun t ht=>(HHd.out.cellsAt i t (by omega)).1) (fun t ht=>(HHd.out.cellsAt i t (by omega)).2)
    have S:=HHd.out.cut i (List.replicate ((l.length - i) * 2) (.int .i64 0))
    have N:=HD.out.done
    have N2:Hid ((l.filter (fun x=>!p x)).length=i):=Lib.hid (by rw [← N,List.length_take];omega)
    rw [N] at S
    have SH:=Lib.hid S
    have SA:=Lib.hid (HB.out.trans (apt_cells b (List.replicate ((l.length - i) * 2) (.int .i64 0)) (off + i * 2) wr))
    clear S N
    go_wp2
    go_ret
    exact ⟨by rw [N2.out];rfl,SH.out,SA.out⟩
end Go.Proofs.YtcadomjkjoiakaaGreatDoor
namespace Go.Proofs.YtcadomjkjoiakaaGreatDoor
open Go.RowKit Cal Txt
theorem info_ti_chg:(Tryz.prog.info? 97).map (fun i=>(i.zero,i.size,i.bytes))=some (some (.agg #[.int .i64 0,.int .i64 0]),2,16):=by kernel_rfl
theorem nths_cells {w:World} {b off:Nat} {l:List (Int × Int)} (hc:∀ i,i<l.length→w.cell? ⟨b,off + i * 2,none⟩=some (.int .i64 (l.getD i (0,0)).1)∧w.cell? ⟨b,off + i * 2 + 1,none⟩=some (.int .i64 (l.getD i (0,0)).2)):∀ j u,(Zo.prc l)[j]?=some u→w.cell? ((⟨b,off,none⟩:Addr).add j)=some u:=fun j u hu=>by
 have hl:j<l.length * 2:=by have:=(List.getElem?_eq_some_iff.1 hu).1;rwa [Zo.prc_len] at this
 have hadd:(⟨b,off,none⟩:Addr).add j=⟨b,off + j,none⟩:=by unfold Addr.add;split <;> simp_all
 rw [hadd]
 obtain ⟨q1,q2⟩:=Zo.prc_at l (j / 2) (by omega)
 obtain ⟨c1,c2⟩:=hc (j / 2) (by omega)
 rcases (by omega:j % 2=0∨j % 2=1) with z | z
 ·rw [show j=j / 2 * 2 by omega] at hu ⊢
  rw [c1,← q1,hu]
 ·rw [show j=j / 2 * 2 + 1 by omega] at hu ⊢
  rw [← Nat.add_assoc,c2,← q2,hu]
theorem prc_one (l:List (Int × Int)):∀ u∈Zo.prc l,u.oneCell'=true:=fun u hu=>by
 unfold Zo.prc at hu
 obtain ⟨x,_,hx⟩:=List.mem_flatMap.1 hu
 simp at hx
 rcases hx with rfl | rfl <;> rfl
theorem app2_any {w:World} {n0:Nat} {v vo:Value} {l mo:List (Int × Int)} (h:w.ownsRow n0 97 2 v l.length (Zo.prc l)) (hm:Nths w vo mo) (hn:n0≤w.heap.size) (hl:l.length + mo.length≤1000000) :
 ∃ v' w',(∀ ty,(Builtin.append_ #[29,29] ty #[v,vo]).run Tryz.prog w=.ok v' w')∧w'.ownsRow n0 97 2 v' (l++mo).length (Zo.prc (l++mo))∧Below n0 w w':=by
 obtain ⟨i0,hi,hz0,hz1,hz2⟩:=info_parts info_ti_chg
 obtain ⟨a,cap,rfl,hc⟩:=hm
 have own:∀ (v':Value) (w':World),w'.ownsRow n0 97 2 v' (l.length + mo.length) (Zo.prc l++Zo.prc mo)→w'.ownsRow n0 97 2 v' (l++mo).length (Zo.prc (l++mo)):=fun v' w' q=>by
  rw [List.length_append,show Zo.prc (l++mo)=Zo.prc l++Zo.prc mo by simp [Zo.prc]];exact q
 have blw:∀ w':World,w.grownBy w' v.ownBlock→Below n0 w w':=fun w' q=>(Below.refl n0 w).grown q hn (fun j hj=>(h.lt j hj).1)
 have some_:∀ ad:Addr,(∀ j u,(Zo.prc mo)[j]?=some u→w.cell? (ad.add j)=some u)→∃ (v':Value) (w':World),(∀ ty,(Builtin.append_ #[29,29] ty #[v,.slice (some ad) mo.length cap]).run Tryz.prog w=.ok v' w')∧w'.ownsRow n0 97 2 v' (l++mo).length (Zo.prc (l++mo))∧Below n0 w w':=fun ad hcell=>by
  obtain ⟨v',w',hr,r1,r2,_,_⟩:=run_append_own_at (P:=Tryz.prog) w n0 29 29 97 i0 (.agg #[.int .i64 0,.int .i64 0]) 2 16 Tryz.underlying29 hi hz0 hz1 hz2 rfl (by decide) v l.length (Zo.prc l) h ad mo.length cap (Zo.prc mo) (Zo.prc_len mo) hcell (prc_one mo) (by unfold maxLen;omega) (by omega) hn
  exact ⟨v',w',fun ty=>hr,own v' w' r1,blw w' r2⟩
 rcases hc with rfl | ⟨b,off,rfl,hc⟩
 ·rcases a with _ | ad
  ·refine ⟨v,w,fun ty=>?_,own v w (by simpa [Zo.prc] using h),Below.refl _ _⟩
   rcases h.2 with ⟨rfl,h0⟩ | ⟨g,cp,cur,rfl,_,hg,hnc,_,_,_⟩
   ·simp [Builtin.append_,run_underlying Tryz.underlying29,sizeOf,typeInfo,hi,Builtin.lenOf,Builtin.firstCells]
   ·simp [Builtin.append_,run_underlying Tryz.underlying29,sizeOf,typeInfo,hi,Builtin.lenOf,Builtin.firstCells,hnc,storeCells]
  ·exact some_ ad (fun j u hu=>by simp [Zo.prc] at hu)
 ·exact some_ ⟨b,off,none⟩ (nths_cells hc)
theorem own_hol2c {w:World} {n0 n:Nat} {v:Value} {l:List (Int × Int)} (h:w.ownsRow n0 97 2 v n (Zo.prc l)):(v=.slice none 0 0∧l=[])∨∃ g cap,v=.slice (some ⟨g,0,none⟩) l.length cap∧n0≤g∧l.length≤cap∧Hol2 w g 0 l:=by
 have hl:l.length=n:=by have:=h.1;rw [Zo.prc_len] at this;omega
 rcases h.2 with ⟨hv,h0⟩ | ⟨g,cap,cur,hv,hb,hg,hc,hm,hs,ht⟩
 ·exact Or.inl ⟨hv,List.eq_nil_of_length_eq_zero (by omega)⟩
 ·refine Or.inr ⟨g,cap,by rw [hv,hl],hb,by omega,fun i hi=>?_⟩
  have hadd:∀ j,(⟨g,0,none⟩:Addr).add j=⟨g,0 + j,none⟩:=fun j=>by unfold Addr.add;split <;> simp_all
  obtain ⟨q1,q2⟩:=Zo.prc_at l i hi
  have c1:=h.cells (g:=g) (by rw [hv];rfl) _ _ q1
  have c2:=h.cells (g:=g) (by rw [hv];rfl) _ _ q2
  rw [hadd] at c1 c2
  refine ⟨⟨c1,by rw [Nat.add_assoc];exact c2⟩,?_,?_⟩ <;> simp [World.frozen?,hg]
def ClnA (w:World) (l:List (Int × Int)) (e:Ending) (w':World):Prop:=∃ u,e=.returned u∧Below w.heap.size w w'∧((l=[]∧∃ a c,u=.slice a 0 c)∨(0<l.length∧∃ g cap,u=.slice (some ⟨g,0,none⟩) l.length cap∧w.heap.size≤g∧l.length≤cap∧Hol2 w' g 0 l))
set_option maxRecDepth 100000 in
theorem clone_any (v:Value) (l:List (Int × Int)) (w:World) (hv:Nths w v l) (hl:l.length≤1000000) :
 Calls Tryz.prog 126 #[v] w (ClnA w l):=by
 obtain ⟨a,cap,rfl,hc⟩:=id hv
 rcases a with _ | ad
 ·have l0:l=[]:=by
   rcases hc with q | ⟨b,off,q,_⟩
   ·exact q
   ·cases q
  subst l0
  have hn:∀ w,(binOp .eql 29 (.slice none 0 cap) (.slice none 0 0)).run Tryz.prog w=.ok (.bool true) w:=fun w=>Lib.run_eql_slice_nil w _ _ none _ _ _ _ Tryz.underlying29
  go_enter Tryz.func126,Tryz.ntmps126
  go_wp2
  go_ret
  exact ⟨_,rfl,Below.refl _ _,Or.inl ⟨rfl,none,0,rfl⟩⟩
 ·have b1:Below w.heap.size w (w.alloc (.cells #[] 97)):=(Below.refl _ _).alloc (Nat.le_refl _) _
  have O0:(w.alloc (.cells #[] 97)).ownsRow w.heap.size 97 2 (.slice (some ⟨w.heap.size,0,none⟩) ([]:List (Int × Int)).length 0) ([]:List (Int × Int)).length (Zo.prc []):=
   ⟨rfl,Or.inr ⟨w.heap.size,0,#[],rfl,Nat.le_refl _,heap_alloc_new w _,Nat.le_refl _,Nat.zero_le _,rfl,rfl⟩⟩
  obtain ⟨v2,w2,ap,o2,b2⟩:=app2_any (mo:=l) O0 (hv.on b1) (by rw [World.size_alloc];omega) (by simpa using hl)
  rw [List.nil_append] at o2
  have AP:=Lib.hid ap
  have ZZ:Hid (ClnA w l (.returned v2) w2):=Lib.hid (by
   refine ⟨v2,rfl,b1.trans b2,?_⟩
   rcases own_hol2c o2 with ⟨e1,e2⟩ | ⟨g,c2,e1,h1,h2,h3⟩
   ·exact Or.inl ⟨e2,none,0,e1⟩
   ·rcases Nat.eq_zero_or_pos l.length with q | q
    ·exact Or.inl ⟨List.eq_nil_of_length_eq_zero q,_,_,by rw [e1,q]⟩
    ·exact Or.inr ⟨q,g,c2,e1,h1,h2,h3⟩)
  have hn:∀ w,(binOp .eql 29 (.slice (some ad) l.length cap) (.slice none 0 0)).run Tryz.prog w=.ok (.bool false) w:=fun w=>Lib.run_eql_slice_nil w _ _ (some ad) _ _ _ _ Tryz.underlying29
  clear hv hc O0 ap o2 b2 b1
  go_enter Tryz.func126,Tryz.ntmps126
  go_wp2_with (at_builtin;refine wpList_app rfl _ _ 29 rfl _ _ _ _ rfl rfl AP.out ?_)
  go_ret
  exact ZZ.out
end Go.Proofs.YtcadomjkjoiakaaGreatDoor
namespace Go.Proofs.YtcadomjkjoiakaaGreatDoor
open Go.RowKit Cal Txt
def isE (e:Evt) (x:Int):Prop:=(isS e x∨x∈e.more)∧x ∉ e.nots
theorem evL_is {e:Evt} {fr t x:Int} (h:evF e=0) (hf:ist fr=true) (ht:ist t=true):x∈evL (stL e fr t) e fr t↔isE e x∧fr≤x∧x≤t:=by
 rw [evL_mem]
 unfold isE
 constructor
 ·rintro ⟨a,b,c,d⟩
  exact ⟨⟨a.imp (fun q=>(stL_mem h hf ht c d).1 q) id,b⟩,c,d⟩
 ·rintro ⟨⟨a,b⟩,c,d⟩
  exact ⟨a.imp (fun q=>(stL_mem h hf ht c d).2 q) id,b,c,d⟩
theorem isE_time {e:Evt} {x:Int} (h:evF e=0) (hx:isE e x):ist x=true:=by
 have hs:=(evF_lens h).2.2.1
 rcases hx.1 with q | q
 ·unfold isS at q
  split at q
  ·rename_i hr
   obtain ⟨n,hn,rfl⟩:=q
   have h3:=(evF_lens h).2.1
   unfold ruF at h3
   rw [if_pos hr] at h3
   obtain ⟨d1,d2,_⟩:=DAYS_in (sf_ev h3 hs) hn
   have e1:=(dyo_ok hs).1
   have:=of_decide_eq_true hs
   unfold tmd
   rw [e1] at d1 ⊢
   exact ist_yes (by omega) (by omega)
  ·rw [q];exact hs
 ·exact List.all_eq_true.1 (evF_lens h).2.2.2.1.1 x q
def isEb (e:Evt) (x:Int):Bool:=!((evL (stL e x x) e x x).length == 0)
theorem isEb_iff {e:Evt} {x:Int} (h:evF e=0) (hx:ist x=true):isEb e x=true↔isE e x:=by
 unfold isEb
 constructor
 ·intro q
  have q2:(evL (stL e x x) e x x).length≠0:=by simpa using q
  obtain ⟨y,hy⟩:=List.exists_mem_of_length_pos (Nat.pos_of_ne_zero q2)
  obtain ⟨a,b,c⟩:=(evL_is h hx hx).1 hy
  rwa [show x=y by omega]
 ·intro q
  have hm:=(evL_is h hx hx).2 ⟨q,Int.le_refl _,Int.le_refl _⟩
  have:=List.length_pos_of_mem hm
  simp;intro z;rw [z] at this;simp at this
def rea (e:Evt) (x:Int):Option Int:=match chOf e.chg x with | none=>some x | some n=>if n=0 then none else some n
theorem chOf_mem {l:List (Int × Int)} {x n:Int} (h:chOf l x=some n):(x,n)∈l:=by
 unfold chOf at h
 rcases q:l.find? (fun c=>c.1 == x) with _ | c
 ·rw [q] at h;cases h
 ·rw [q] at h
  have e1:=List.find?_some q
  have e2:=List.mem_of_find?_eq_some q
  simp at h e1
  rw [← h,← e1]
  exact e2
theorem cri_pair {l:List (Int × Int)} (h:criB l=true):l.Pairwise (fun a b=>a.1<b.1):=by
 unfold criB at h
 rw [List.all_eq_true] at h
 have st:∀ i,i + 1<l.length→(l.getD i (0,0)).1<(l.getD (i + 1) (0,0)).1:=fun i hi=>of_decide_eq_true (h i (List.mem_range.2 (by omega)))
 have far:∀ d i,i + d + 1<l.length→(l.getD i (0,0)).1<(l.getD (i + d + 1) (0,0)).1:=by
  intro d
  induction d with
  | zero=>intro i hi;exact st i hi
  | succ d ih=>
    intro i hi
    have a:=ih i (by omega)
    have b:=st (i + d + 1) (by omega)
    rw [show i + (d + 1) + 1=i + d + 1 + 1 by omega]
    omega
 rw [List.pairwise_iff_getElem]
 intro i j hi hj hij
 have:=far (j - i - 1) i (by omega)
 rw [show i + (j - i - 1) + 1=j by omega,List.getD_eq_getElem?_getD,List.getD_eq_getElem?_getD,List.getElem?_eq_getElem hi,List.getElem?_eq_getElem hj] at this
 exact this
theorem chOf_of:∀ {l:List (Int × Int)} {c:Int × Int},l.Pairwise (fun a b=>a.1<b.1)→c∈l→chOf l c.1=some c.2
 | [],_,_,h=>by simp at h
 | d :: l,c,hp,h=>by
   obtain ⟨p1,p2⟩:=List.pairwise_cons.1 hp
   rcases List.mem_cons.1 h with e | e
   ·subst e
    unfold chOf
    rw [List.find?_cons_of_pos (by simp)]
    rfl
   ·have lt:=p1 c e
    have ih:=chOf_of p2 e
    unfold chOf at ih ⊢
    rw [List.find?_cons_of_neg (by simp;omega)]
    exact ih
theorem evF_chg {e:Evt} (h:evF e=0):e.chg.all chB=true∧criB e.chg=true:=by
 unfold evF at h
 split at h
 ·cases h
 split at h
 ·cases h
 split at h
 ·rename_i q;exact absurd h q
 split at h
 ·rename_i q;exact absurd h q
 rename_i q1 q2 q3
 have h4:liF e=0:=Decidable.byContradiction q3
 unfold liF at h4
 split at h4
 ·cases h4
 split at h4
 ·cases h4
 split at h4
 ·cases h4
 rename_i a b c
 simp only [Bool.not_eq_false,Bool.and_eq_true] at b c
 exact ⟨b.2,c.2⟩
theorem rea_time {e:Evt} {x r:Int} (h:evF e=0) (hx:isE e x) (hr:rea e x=some r):ist r=true:=by
 unfold rea at hr
 split at hr
 ·cases hr;exact isE_time h hx
 ·rename_i n q
  split at hr
  ·cases hr
  ·rename_i q0
   cases hr
   have:=List.all_eq_true.1 (evF_chg h).1 _ (chOf_mem q)
   unfold chB at this
   simp at this
   exact this.2.resolve_left q0
def sty (e:Evt) (fr t:Int):List (Int × Int):=((evL (stL e fr t) e fr t).filter (fun x=>(chOf e.chg x).isNone)).map (fun x=>(x,x))
def mvd (e:Evt) (fr t:Int):List (Int × Int):=(e.chg.filter (fun c=>decide (fr≤c.2∧c.2≤t))).filter (fun c=>isEb e c.1)
def mom (e:Evt) (fr t:Int):List (Int × Int):=sty e fr t++mvd e fr t
theorem sty_mem {e:Evt} {fr t:Int} {c:Int × Int} (h:evF e=0) (hf:ist fr=true) (ht:ist t=true):c∈sty e fr t↔isE e c.1∧chOf e.chg c.1=none∧c.2=c.1∧fr≤c.1∧c.1≤t:=by
 unfold sty
 rw [List.mem_map]
 constructor
 ·rintro ⟨x,hx,rfl⟩
  obtain ⟨a,b⟩:=List.mem_filter.1 hx
  obtain ⟨p,q⟩:=(evL_is h hf ht).1 a
  exact ⟨p,by simpa using b,rfl,q⟩
 ·rintro ⟨a,b,c',d⟩
  exact ⟨c.1,List.mem_filter.2 ⟨(evL_is h hf ht).2 ⟨a,d⟩,by rw [b];rfl⟩,Prod.ext rfl c'.symm⟩
theorem mvd_mem {e:Evt} {fr t:Int} {c:Int × Int} (h:evF e=0):c∈mvd e fr t↔isE e c.1∧chOf e.chg c.1=some c.2∧fr≤c.2∧c.2≤t:=by
 unfold mvd
 rw [List.mem_filter,List.mem_filter]
 obtain ⟨h1,h2⟩:=evF_chg h
 have tm:∀ {d:Int × Int},d∈e.chg→ist d.1=true:=fun {d} q=>by
  have:=List.all_eq_true.1 h1 d q
  unfold chB at this
  rw [Bool.and_eq_true] at this
  exact this.1
 constructor
 ·rintro ⟨⟨a,b⟩,q⟩
  exact ⟨(isEb_iff h (tm a)).1 q,chOf_of (cri_pair h2) a,by simpa using b⟩
 ·rintro ⟨a,b,q⟩
  have m:=chOf_mem b
  exact ⟨⟨m,by simpa using q⟩,(isEb_iff h (tm m)).2 a⟩
theorem mom_mem {e:Evt} {fr t:Int} {c:Int × Int} (h:evF e=0) (hf:ist fr=true) (ht:ist t=true):c∈mom e fr t↔isE e c.1∧rea e c.1=some c.2∧fr≤c.2∧c.2≤t:=by
 unfold mom rea
 rw [List.mem_append,sty_mem h hf ht,mvd_mem h]
 have f1:=(of_decide_eq_true hf).1
 constructor
 ·rintro (⟨a,b,c',d1,d2⟩ | ⟨a,b,d1,d2⟩)
  ·rw [b,c'];exact ⟨a,rfl,d1,d2⟩
  ·rw [b]
   refine ⟨a,?_,d1,d2⟩
   show (if c.2=0 then none else some c.2)=_
   rw [if_neg (by omega)]
 ·rintro ⟨a,b,d1,d2⟩
  rcases q:chOf e.chg c.1 with _ | n
  ·rw [q] at b
   simp at b
   exact Or.inl ⟨a,rfl,b.symm,by omega,by omega⟩
  ·rw [q] at b
   have b':(if n=0 then none else some n)=some c.2:=b
   split at b'
   ·cases b'
   ·cases b';exact Or.inr ⟨a,rfl,d1,d2⟩
theorem mom_apart {e:Evt} {fr t:Int} (h:evF e=0) (hf:ist fr=true) (ht:ist t=true):(mom e fr t).Pairwise (fun a b=>a.1≠b.1):=by
 unfold mom
 rw [List.pairwise_append]
 refine ⟨?_,?_,?_⟩
 ·unfold sty
  rw [List.pairwise_map]
  exact ((evL_rise _ e fr t).filter _).imp (fun q=>by simp;omega)
 ·unfold mvd
  exact (((cri_pair (evF_chg h).2).filter _).filter _).imp (fun q=>by omega)
 ·intro a ha b hb e'
  have q1:=((sty_mem h hf ht).1 ha).2.1
  have q2:=((mvd_mem h).1 hb).2.1
  rw [e',q2] at q1
  cases q1
abbrev Tm:=Int × Int × Int
def wor (a:Int) (l:List (Int × Int)) (t:Int):Option Int:=(Zo.twi a l t).head?
def tim (a:Int) (l:List (Int × Int)) (e:Evt) (c:Int × Int):Option Tm:=match wor a l c.2 with | none=>none | some f=>if f + e.len≤157785119 then some (c.1,f,f + e.len) else none
def isTm (a:Int) (l:List (Int × Int)) (e:Evt) (fr t:Int) (y:Tm):Prop:=isE e y.1∧(∃ r,rea e y.1=some r∧tim a l e (y.1,r)=some y)∧fr≤y.2.1∧y.2.1<t
def ltT (x y:Tm):Prop:=x.2.1<y.2.1∨(x.2.1=y.2.1∧x.1<y.1)
theorem tm_ext:∀ {a b:List Tm},a.Pairwise ltT→b.Pairwise ltT→(∀ x,x∈a↔x∈b)→a=b
 | [],[],_,_,_=>rfl
 | [],y :: b,_,_,h=>absurd ((h y).2 List.mem_cons_self) (by simp)
 | x :: a,[],_,_,h=>absurd ((h x).1 List.mem_cons_self) (by simp)
 | x :: a,y :: b,ha,hb,h=>by
   obtain ⟨a1,a2⟩:=List.pairwise_cons.1 ha
   obtain ⟨b1,b2⟩:=List.pairwise_cons.1 hb
   have e:x=y:=by
    rcases List.mem_cons.1 ((h x).1 List.mem_cons_self) with q | q
    ·exact q
    ·rcases List.mem_cons.1 ((h y).2 List.mem_cons_self) with q2 | q2
     ·exact q2.symm
     ·have l1:=b1 x q
      have l2:=a1 y q2
      unfold ltT at l1 l2
      omega
   subst e
   congr 1
   refine tm_ext a2 b2 (fun z=>⟨fun q=>?_,fun q=>?_⟩)
   ·rcases List.mem_cons.1 ((h z).1 (List.mem_cons_of_mem _ q)) with e | e
    ·subst e;have:=a1 z q;unfold ltT at this;omega
    ·exact e
   ·rcases List.mem_cons.1 ((h z).2 (List.mem_cons_of_mem _ q)) with e | e
    ·subst e;have:=b1 z q;unfold ltT at this;omega
    ·exact e
def pck (a:Int) (l:List (Int × Int)) (e:Evt) (fr t:Int) (c:Int × Int):Option Tm:=match tim a l e c with | none=>none | some y=>if fr≤y.2.1∧y.2.1<t then some y else none
def lo9 (fr:Int):Int:=if fr - 900<1 then 1 else fr - 900
def hi9 (t:Int):Int:=if t + 900<157785119 then t + 900 else 157785119
def tms (a:Int) (l:List (Int × Int)) (e:Evt) (fr t:Int):List Tm:=(mom e (lo9 fr) (hi9 t)).filterMap (pck a l e fr t)
theorem tim_some {a:Int} {l:List (Int × Int)} {e:Evt} {c:Int × Int} {y:Tm} (h:tim a l e c=some y):y.1=c.1∧y.2.1∈Zo.twi a l c.2∧y.2.2=y.2.1 + e.len∧y.2.2≤157785119:=by
 unfold tim at h
 split at h
 ·cases h
 ·rename_i f q
  split at h
  ·rename_i q2
   cases h
   exact ⟨rfl,List.mem_of_mem_head? q,rfl,q2⟩
  ·cases h
theorem pck_some {a:Int} {l:List (Int × Int)} {e:Evt} {fr t:Int} {c:Int × Int} {y:Tm}:pck a l e fr t c=some y↔tim a l e c=some y∧fr≤y.2.1∧y.2.1<t:=by
 unfold pck
 split
 ·rename_i q;rw [q];simp
 ·rename_i z q
  rw [q]
  constructor
  ·intro h
   split at h
   ·rename_i g;cases h;exact ⟨rfl,g⟩
   ·cases h
  ·rintro ⟨h,g⟩
   cases h
   rw [if_pos g]
def okS (fr t:Int):Prop:=1≤fr∧fr≤157785120∧1≤t∧t≤200000000
theorem lo9_time {fr t:Int} (h:okS fr t):ist (lo9 fr)=true∧ist (hi9 t)=true:=by
 unfold okS at h
 unfold lo9 hi9
 constructor
 ·split <;> exact ist_yes (by omega) (by omega)
 ·split <;> exact ist_yes (by omega) (by omega)
theorem tms_mem {a:Int} {l:List (Int × Int)} {e:Evt} {fr t:Int} {y:Tm} (h:evF e=0) (hz:Zo.zf a l=0) (ho:okS fr t):y∈tms a l e fr t↔isTm a l e fr t y:=by
 obtain ⟨i1,i2⟩:=lo9_time ho
 unfold tms isTm
 rw [List.mem_filterMap]
 constructor
 ·rintro ⟨c,hc,hp⟩
  obtain ⟨m1,m2,m3,m4⟩:=(mom_mem h i1 i2).1 hc
  obtain ⟨p1,p2⟩:=pck_some.1 hp
  have e1:=(tim_some p1).1
  rw [e1]
  exact ⟨m1,⟨c.2,m2,p1⟩,p2⟩
 ·rintro ⟨h1,⟨r,hr,ht⟩,h2,h3⟩
  refine ⟨(y.1,r),(mom_mem h i1 i2).2 ⟨h1,hr,?_⟩,pck_some.2 ⟨ht,h2,h3⟩⟩
  have rt:=of_decide_eq_true (rea_time h h1 hr)
  obtain ⟨_,t1,_,_⟩:=tim_some ht
  obtain ⟨t2,t3⟩:=Zo.twi_mem.1 t1
  have t4:=Zo.zah_in hz (Zo.beg_le y.2.1 l)
  unfold okS at ho
  simp only at t3 ⊢
  unfold lo9 hi9
  constructor
  ·split <;> omega
  ·split <;> omega
theorem tms_apart {a:Int} {l:List (Int × Int)} {e:Evt} {fr t:Int} (h:evF e=0) (ho:okS fr t):(tms a l e fr t).Pairwise (fun x y=>x.1≠y.1):=by
 obtain ⟨i1,i2⟩:=lo9_time ho
 unfold tms
 rw [List.pairwise_filterMap]
 refine (mom_apart h i1 i2).imp (fun {c d} q x hx y hy=>?_)
 rw [(tim_some (pck_some.1 hx).1).1,(tim_some (pck_some.1 hy).1).1]
 exact q
def leT (x y:Tm):Bool:=decide (x.2.1<y.2.1∨(x.2.1=y.2.1∧x.1≤y.1))
def tmL (a:Int) (l:List (Int × Int)) (e:Evt) (fr t:Int):List Tm:=(tms a l e fr t).mergeSort leT
theorem apart_perm {a b:List Tm} (h:a.Perm b) (hp:a.Pairwise (fun x y=>x.1≠y.1)):b.Pairwise (fun x y=>x.1≠y.1):=
 h.pairwise_iff (fun q=>fun z=>q z.symm) |>.1 hp
theorem le_lt {b:List Tm} (h1:b.Pairwise (fun x y=>leT x y=true)) (h2:b.Pairwise (fun x y=>x.1≠y.1)):b.Pairwise ltT:=by
 refine (h1.and h2).imp (fun {x y} q=>?_)
 have:=of_decide_eq_true q.1
 unfold ltT
 omega
theorem tmL_rise {a:Int} {l:List (Int × Int)} {e:Evt} {fr t:Int} (h:evF e=0) (ho:okS fr t):(tmL a l e fr t).Pairwise ltT:=by
 refine le_lt ?_ (apart_perm (List.mergeSort_perm _ _).symm (tms_apart h ho))
 exact List.pairwise_mergeSort (le:=leT) (fun x y z q1 q2=>by unfold leT at *;simp at *;omega) (fun x y=>by unfold leT;simp;omega) _
theorem tmL_mem {a:Int} {l:List (Int × Int)} {e:Evt} {fr t:Int} {y:Tm} (h:evF e=0) (hz:Zo.zf a l=0) (ho:okS fr t):y∈tmL a l e fr t↔isTm a l e fr t y:=by
 unfold tmL
 rw [List.mem_mergeSort,tms_mem h hz ho]
theorem tmL_of {a:Int} {l:List (Int × Int)} {e:Evt} {fr t:Int} (h:evF e=0) (ho:okS fr t) {b:List Tm} (hp:(tms a l e fr t).Perm b) (hs:b.Pairwise (fun x y=>leT x y=true)):b=tmL a l e fr t:=by
 refine tm_ext (le_lt hs (apart_perm hp (tms_apart h ho))) (tmL_rise h ho) (fun x=>?_)
 unfold tmL
 rw [List.mem_mergeSort,hp.mem_iff]
end Go.Proofs.YtcadomjkjoiakaaGreatDoor
