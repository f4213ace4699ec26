/-
  What is proved here: small words on lists of texts that lie in memory behind a slice; what chimesame's Texts answers of two lists that are the same (a contract over the translation).
-/
import Derived.Test.YtcadomjkjoiakaaGreatDoorQK
import Derived.BigQuiet
namespace Go.Proofs.YtcadomjkjoiakaaGreatDoor
open Go.RowKit Cal
def Txs (w:World) (v:Value) (l:List ByteArray):Prop:=
 ∃ a cap,v=.slice a l.length cap∧(l=[]∨∃ b off,a=some ⟨b,off,none⟩∧∀ i,i<l.length→w.cell? ⟨b,off + i,none⟩=some (.string (l.getD i ByteArray.empty)))
theorem Txs.on {w w':World} {v:Value} {l:List ByteArray} (h:Txs w v l) (q:Below w.heap.size w w'):Txs w' v l:=by
 obtain ⟨a,cap,e,hc⟩:=h
 refine ⟨a,cap,e,?_⟩
 rcases hc with hc | ⟨b,off,ea,hc⟩
 ·exact Or.inl hc
 ·refine Or.inr ⟨b,off,ea,fun i hi=>?_⟩
  have k:=hc i hi
  have hb:b<w.heap.size:=by
   rcases Nat.lt_or_ge b w.heap.size with g | g
   ·exact g
   ·simp [World.cell?,Array.getElem?_eq_none g] at k
  exact (q.cell (p:=⟨b,off + i,none⟩) hb).trans k
theorem own_txs {W:World} {base:Nat} {e:TypeId} {v:Value} {n:Nat} {xs:List ByteArray} (h:W.ownsRow base e 1 v n (strs xs)):Txs W v xs:=by
 have hl:xs.length=n:=by have:=h.1;simpa [strs] using this
 rcases Nat.eq_zero_or_pos n with h0 | h0
 ·have hx:xs=[]:=List.eq_nil_of_length_eq_zero (by omega)
  rcases h.2 with ⟨hv,_⟩ | ⟨g,cap,cur,hv,_⟩
  ·exact ⟨none,0,by rw [hv,hx];rfl,Or.inl hx⟩
  ·exact ⟨_,cap,by rw [hv,hl],Or.inl hx⟩
 ·obtain ⟨g,cap,hv,hg,hc,hcells⟩:=own_texts h h0
  refine ⟨some ⟨g,0,none⟩,cap,by rw [hv,hl],Or.inr ⟨g,0,rfl,fun i hi=>?_⟩⟩
  refine hcells i _ ?_
  rw [List.getD_eq_getElem?_getD,List.getElem?_eq_getElem hi];rfl
theorem tx_drewN {B:Nat} {w wr:World} (h:Below B w wr) (q:Nat):Below B w (wr.drewN q):=⟨h.1,h.2,h.3,h.4,h.5⟩
end Go.Proofs.YtcadomjkjoiakaaGreatDoor
