/-
  Texts of our own that serve the card of this claim, joined into one.
-/
import Derived.Test.YtcadomjkjoiakaaGreatDoorCards
import Derived.Test.YtcadomjkjoiakaaGreatDoorTie
import Derived.WalkKit
import Derived.ProofKit
import Derived.OpenShut
import Derived.Deep.DeepHandedRow
import Derived.Lib.LaidTab
import Derived.Lib.SmallJoins
import Derived.ChangeMaps5
import Derived.Test.YtcadomjkjoiakaaGreatDoorQA
namespace Go.Proofs.YtcadomjkjoiakaaGreatDoor
open Go.ChangeShapes Go.WideShapes Go.ChangeAt Go.RowKit
theorem own:ownKnob Tryz.prog.godebug=none:=by kernel_rfl
theorem cellsInt:Tryz.prog.cellsOf 3=1:=by kernel_rfl
def Reads (P:Program) (W:World) (name:String) (d:DataW Unit):Prop:=
 ∃ g t cs fuel p,P.globalNamed name=some g∧(P.globals[g]?).map (·.type)=some t∧W.var? P name=some cs∧DataW.trod (fun _=>()) P W 0 (fun _=>true) false fuel t cs.toList=some (d,p)
theorem reads_list {P:Program} {W:World} {name:String} {d:DataW Unit} (l:List (String × DataW Unit)):∀ ps,DataW.LaidVars P W l ps→(name,d)∈l→Reads P W name d:=by
 induction l with
 | nil=>intro _ _ hm;cases hm
 | cons x l ih=>
   intro ps h hm
   obtain ⟨g,t,cs,fuel,p,q,a,b,c,e,r,_⟩:=h
   rcases List.mem_cons.1 hm with rfl | k
   ·exact ⟨g,t,cs,fuel,p,a,b,c,e⟩
   ·exact ih q r k
theorem reads_of {P:Program} {W:World} {name:String} {d:DataW Unit} {l:List (String × DataW Unit)} (h:laidMet P l W) (hm:(name,d)∈l):Reads P W name d:=by
 obtain ⟨ps,hv,_⟩:=h
 exact reads_list l ps hv hm
theorem tabIs_of_reads {P:Program} {W:World} {name:String} {k:IntKind} {zs:List Int} {g:Nat} {t e:TypeId} {n:Nat}
 (hg:P.globalNamed name=some g) (hty:(P.globals[g]?).map (·.type)=some t) (ht:P.underlying t=some (.array n e)) (he:P.underlying e=some (.int k)) (hce:P.cellsOf e=1) (hct:P.cellsOf t=n)
 (h:Reads P W name (Lib.tabData k zs)):Lib.TabIs P W name k zs:=by
 obtain ⟨g',t',cs,fuel,p,hg',ht',hvar,hd⟩:=h
 obtain rfl:=Option.some.inj (hg.symm.trans hg')
 obtain rfl:=Option.some.inj (hty.symm.trans ht')
 unfold Lib.TabIs
 rw [hvar,← Lib.cells_of_tab ht he hce hct hd]
theorem field_int {H:Type} {enc:TypeId × Value→H} {P:Program} {w:World} {base:Nat} {sp:Nat→Bool} {held:Bool} {fuel:Nat} {t:TypeId} {fs:Array Field} {cs:List Value} {ds:List (DataW H)} {p:List MemPlace}
 (ht:P.underlying t=some (.struct fs)) (h:DataW.trod enc P w base sp held fuel t cs=some (.agg ds,p)) (i:Nat) (f:Field) (hf:fs[i]?=some f) {k:IntKind} {z:Int}
 (hu:P.underlying f.type=some (.int k)) (hc:P.cellsOf f.type=1) (hd:ds[i]?=some (.lit (.int k z))):cs[f.offset]?=some (.int k z):=by
 obtain ⟨xs,n,rfl,hx,hl,hxl,hall⟩:=DataW.trod_struct ht h
 have hxs:xs.map (·.1)=ds:=by
  have:=congrArg Prod.fst hx
  simpa using this.symm
 have h1:=hall i f hf
 have hi:i<xs.length:=by
  rw [hxl];exact (Array.getElem?_eq_some_iff.1 hf).1
 obtain ⟨b,hb⟩:∃ b,xs[i]?=some b:=⟨xs[i],List.getElem?_eq_getElem hi⟩
 rw [hb,hc] at h1
 obtain ⟨z',hcz,rfl,_⟩:=DataW.trod_int hu h1
 have h2:cs[f.offset]?=some (.int k z'):=by
  have:=congrArg (·[0]?) hcz
  simpa [List.getElem?_take,List.getElem?_drop] using this
 have h3:(xs.map (·.1))[i]?=some (DataW.lit (.int k z'):DataW H):=by simp [hb]
 rw [hxs,hd] at h3
 simp only [Option.some.injEq,DataW.lit.injEq,Lit.int.injEq,true_and] at h3
 rw [h2,h3]
def lits:DataW Unit→List (DataW Unit)
 | .agg ds=>ds
 | _=>[]
def litCell:DataW Unit→Value
 | .lit (.int k z)=>.int k z
 | .lit (.string s)=>.string ⟨s.toArray⟩
 | _=>.bool false
def layInts (d:DataW Unit):Obj→Obj
 | .cells _ t frozen=>.cells ((lits d).map litCell).toArray t frozen
 | o=>o
def layRows (d:DataW Unit):Obj→Obj
 | .cells _ t frozen=>.cells ((lits d).flatMap fun r=>(lits r).map litCell).toArray t frozen
 | o=>o
end Go.Proofs.YtcadomjkjoiakaaGreatDoor
namespace Go.Proofs.YtcadomjkjoiakaaGreatDoor
open Go.ChangeShapes Go.WideShapes Go.ChangeAt Go.RowKit Cal
theorem gTab : Tryz.prog.globalNamed "chimework/day.monthDays" = some 6 := by kernel_rfl
theorem gTabType:(Tryz.prog.globals[6]?).map (·.type)=some 255:=by kernel_rfl
theorem cellsTab:Tryz.prog.cellsOf 255=12:=by kernel_rfl
theorem tab_of {W : World} (h : Lib.TabIs Tryz.prog W "chimework/day.monthDays" .i64 [31, 28, 31, 30, 31, 30, 31, 31, 30, 31, 30, 31]) : Tab W := by
 intro i hi
 have hc:=h.cell gTab i (by simpa using hi)
 rw [hc]
 have hcs:i=0∨i=1∨i=2∨i=3∨i=4∨i=5∨i=6∨i=7∨i=8∨i=9∨i=10∨i=11:=by omega
 rcases hcs with rfl | rfl | rfl | rfl | rfl | rfl | rfl | rfl | rfl | rfl | rfl | rfl <;> rfl
end Go.Proofs.YtcadomjkjoiakaaGreatDoor
namespace Go.Proofs.YtcadomjkjoiakaaGreatDoor
open Go.ChangeShapes Go.WideShapes Go.ChangeAt Go.RowKit Cal
theorem tab_of_reads {W : World} (h : Reads Tryz.prog W "chimework/day.monthDays" Rows.laid_chimework_day_monthDays) : Tab W :=
 tab_of (tabIs_of_reads gTab gTabType Tryz.underlying255 Tryz.underlying3 cellsInt cellsTab h)
end Go.Proofs.YtcadomjkjoiakaaGreatDoor
