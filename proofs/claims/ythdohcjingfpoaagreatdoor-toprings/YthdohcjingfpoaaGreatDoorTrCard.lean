/-
  What is proved: chimetop.TopRings returns true for every zone, event, number and list of steps, and leaves all that was there as it was. Conditions: the table of months holds at the start what the text of the program lays (the card ties it to that text).
-/
import Derived.Test.YthdohcjingfpoaaGreatDoorOP
import Derived.Test.YthdohcjingfpoaaGreatDoorBM
import Derived.Test.YthdohcjingfpoaaGreatDoorTR
import Derived.Deep.DeepWitnessRowRef
import Derived.Deep.DeepLaidRun
namespace Go.Proofs.YthdohcjingfpoaaGreatDoor.topRings
open Go.ChangeShapes Go.WideShapes Go.ChangeAt Go.RowKit Go.Joins Go.ChangeMaps Cal Txt
theorem data {W : World} (h : laidMetH Tryz.prog Rows.topRingsRow.laid W) : laidMet Tryz.prog [("chimework/day.monthDays", Rows.laid_chimework_day_monthDays)] W := h
theorem reads_monthDays {W : World} (h : laidMetH Tryz.prog Rows.topRingsRow.laid W) : Reads Tryz.prog W "chimework/day.monthDays" Rows.laid_chimework_day_monthDays := reads_of (data h) (by simp)
theorem laidOut:laidOutB Tryz.prog=true:=by kernel_rfl
theorem read_event:Tryz.prog.readableRec 40=true:=by kernel_rfl
theorem row_event:40<Tryz.prog.types.size:=of_decide_eq_true (by kernel_rfl)
theorem read_mints:Tryz.prog.readableRec 34=true:=by kernel_rfl
theorem row_mints:34<Tryz.prog.types.size:=of_decide_eq_true (by kernel_rfl)
theorem read_zone:Tryz.prog.readableRec 24=true:=by kernel_rfl
theorem row_zone:24<Tryz.prog.types.size:=of_decide_eq_true (by kernel_rfl)
set_option maxRecDepth 100000 in
theorem contract (H:Type) (enc:TypeId × Value→H) (W:World) (base:Nat) (args:Array Value) (ds gs:List (DataW H)) (before:List MemPlace)
 (hval:∀ (j:Nat) t v,Tryz.f6.params[j]?=some t→args[j]?=some v→Value.okWide Tryz.prog W .any base t v)
 (hW:DataW.Whole enc Tryz.prog Tryz.f6.params.toList Rows.topRingsSpec.vars false W args.toList ds gs before) (hL:laidMetH Tryz.prog Rows.topRingsRow.laid W) :
 Calls Tryz.prog 6 args W fun e W'=>∃ v,e=.returned v∧Rows.topRingsSpec.post enc Tryz.prog Tryz.f6 false true false false W args v W':=by
 have hW':=hW
 obtain ⟨p,q,hA0,hV,rfl,hfz,hnd⟩:=hW
 have hA:DataW.TrodAll enc Tryz.prog W 0 (fun _=>true) true Tryz.f6.params.toList args.toList ds p:=hA0
 rw [Tryz.params6] at hA hval
 obtain ⟨v0,vs0,d0,ds0,p0,q0,hargs,rfl,rfl,h0,r0⟩:=trodAll_cons hA
 obtain ⟨v1,vs1,d1,ds1,p1,q1,rfl,rfl,rfl,h1,r1⟩:=trodAll_cons r0
 obtain ⟨v2,vs2,d2,ds2,p2,q2,rfl,rfl,rfl,h2,r2⟩:=trodAll_cons r1
 obtain ⟨v3,vs3,d3,ds3,p3,q3,rfl,rfl,rfl,h3,r3⟩:=trodAll_cons r2
 obtain ⟨rfl,rfl,rfl⟩:=trodAll_nil r3
 obtain rfl:args=#[v0,v1,v2,v3]:=Array.ext' hargs
 obtain ⟨rfl,rfl⟩:=trodVars_none hV
 obtain ⟨x0,l0,hr0⟩:=Zo.zone_open (hval 0 24 v0 rfl rfl) h0
 obtain ⟨e1,s1,rfl,hr1⟩:=event_open (hval 1 40 v1 rfl rfl) h1
 obtain ⟨a2,rfl,rfl,rfl,z2⟩:=open_int Tryz.underlying3 (hval 2 3 v2 rfl rfl) h2
 obtain ⟨l3,hr3,hu3⟩:=Mo.mints_open (hval 3 34 v3 rfl rfl) h3
 have hlt0:∀ x∈p0,x.block<W.heap.size:=by
  obtain ⟨fuel,hf⟩:=h0
  exact DataW.trod_lt fuel _ _ _ hf
 have hlt1:∀ x∈p1,x.block<W.heap.size:=by
  obtain ⟨fuel,hf⟩:=h1
  exact DataW.trod_lt fuel _ _ _ hf
 have hlt3:∀ x∈p3,x.block<W.heap.size:=by
  obtain ⟨fuel,hf⟩:=h3
  exact DataW.trod_lt fuel _ _ _ hf
 clear hA0
 simp only [List.append_nil] at hW'
 refine (Dk.trings x0 l0 _ e1 s1 a2 l3 _ W hr0 hr1 hr3 (tab_of_reads (reads_monthDays hL))).mono fun x W' ⟨he,hb⟩=>?_
 subst he
 refine ⟨_,rfl,_,_,_,[],p0++(p1++([]++(p3++([])))),[],hW',?_,?_,?_,hb.frame _,fun h=>by cases h⟩
 ·exact trodAll_mk1 (shut_bool Tryz.underlying4 true)
 ·exact trodAll_cons_mk (Below.trod laidOut read_zone row_zone h0 hb hlt0) (trodAll_cons_mk (Below.trod laidOut read_event row_event h1 hb hlt1) (trodAll_cons_mk (shut_int Tryz.underlying3 z2) (trodAll_cons_mk (Below.trod laidOut read_mints row_mints h3 hb hlt3) (trodAll_mk0))))
 ·rfl
noncomputable def low:Nat:=(World.holding Tryz.prog default ⟨#[],#[],[]⟩).heap.size
theorem laid_met (os:Os):laidMet Tryz.prog Rows.topRingsRow.laid (({ World.holding Tryz.prog os ⟨#[],#[],[]⟩ with heap:=((World.holding Tryz.prog os ⟨#[],#[],[]⟩).heap.modify 1 (layInts Rows.laid_chimework_day_monthDays)) }:World).forCall (fun _ _=>0) ⟨#[],#[.agg #[.int .i64 0,.slice none 0 0],.agg #[.string ⟨#[]⟩,.string ⟨#[]⟩,.int .i64 0,.int .i64 0,.bool false,.int .i64 0,.int .i64 0,.int .i64 0,.int .i64 0,.slice none 0 0,.slice none 0 0,.slice none 0 0,.slice none 0 0,.slice none 0 0,.slice none 0 0,.slice none 0 0,.slice none 0 0],.int .i64 0,.slice none 0 0],[]⟩).memory:=
 laidMet_of_run3 8 (by kernel_rfl) (by kernel_rfl) (by kernel_rfl)
theorem reads (os:Os) {H:Type} (enc:TypeId × Value→H):∃ places,DataW.whole enc Tryz.prog (({ World.holding Tryz.prog os ⟨#[],#[],[]⟩ with heap:=((World.holding Tryz.prog os ⟨#[],#[],[]⟩).heap.modify 1 (layInts Rows.laid_chimework_day_monthDays)) }:World).forCall (fun _ _=>0) ⟨#[],#[.agg #[.int .i64 0,.slice none 0 0],.agg #[.string ⟨#[]⟩,.string ⟨#[]⟩,.int .i64 0,.int .i64 0,.bool false,.int .i64 0,.int .i64 0,.int .i64 0,.int .i64 0,.slice none 0 0,.slice none 0 0,.slice none 0 0,.slice none 0 0,.slice none 0 0,.slice none 0 0,.slice none 0 0,.slice none 0 0],.int .i64 0,.slice none 0 0],[]⟩).memory Tryz.f6.params.toList Rows.topRingsSpec.vars false (#[.agg #[.int .i64 0,.slice none 0 0],.agg #[.string ⟨#[]⟩,.string ⟨#[]⟩,.int .i64 0,.int .i64 0,.bool false,.int .i64 0,.int .i64 0,.int .i64 0,.int .i64 0,.slice none 0 0,.slice none 0 0,.slice none 0 0,.slice none 0 0,.slice none 0 0,.slice none 0 0,.slice none 0 0,.slice none 0 0],.int .i64 0,.slice none 0 0]:Array Value).toList 8=some ([.agg [.lit (.int .i64 0),.nil],.agg [.lit (.string []),.lit (.string []),.lit (.int .i64 0),.lit (.int .i64 0),.lit (.bool false),.agg [.lit (.int .i64 0),.lit (.int .i64 0),.lit (.int .i64 0),.lit (.int .i64 0),.nil,.nil,.nil,.nil],.nil,.nil,.nil,.nil],.lit (.int .i64 0),.nil],[],places):=
 ⟨[],by kernel_rfl⟩
set_option maxRecDepth 100000 in
theorem lifted (os:Os) (started:os.Started) (H:Type) (enc:TypeId × Value→H) (F:Stop.Interp) :
 ReturnsInHanded {} Tryz.checked os 6 .any ((OpenSpec.ofChange Rows.topRingsSpec).preRow enc Tryz.prog Tryz.f6 Rows.topRingsRow.domain false Rows.topRingsRow.laid) (((OpenSpec.ofChange Rows.topRingsSpec).at F).post enc Tryz.prog Tryz.f6 false true false false):=by
 obtain ⟨places,hx⟩:=reads os enc
 refine returnsInHanded_of_row (C:=Tryz.checked) (s:=OpenSpec.ofChange Rows.topRingsSpec) own started (by kernel_rfl) Tryz.func6
  (witness_row_atRef (enc:=enc) (C:=Tryz.checked) false ({ World.holding Tryz.prog os ⟨#[],#[],[]⟩ with heap:=((World.holding Tryz.prog os ⟨#[],#[],[]⟩).heap.modify 1 (layInts Rows.laid_chimework_day_monthDays)) }:World) #[.agg #[.int .i64 0,.slice none 0 0],.agg #[.string ⟨#[]⟩,.string ⟨#[]⟩,.int .i64 0,.int .i64 0,.bool false,.int .i64 0,.int .i64 0,.int .i64 0,.int .i64 0,.slice none 0 0,.slice none 0 0,.slice none 0 0,.slice none 0 0,.slice none 0 0,.slice none 0 0,.slice none 0 0,.slice none 0 0],.int .i64 0,.slice none 0 0] rfl (by kernel_rfl) (by kernel_rfl) (by kernel_rfl)
   (OpenSpec.preRow_of_cond 8 hx (by kernel_rfl) (fun k hk=>by cases hk) (by kernel_rfl) (laid_met os))) ?_
 intro W base args ds gs before hval hW _ _ _ hL _ _
 exact contract H enc W base args ds gs before hval hW hL
theorem named:Tryz.pinned.checked.prog.funcNamed Rows.topRingsRow.func=some 6:=by kernel_rfl
set_option maxHeartbeats 20000000 in
theorem closed:joinedFacts Tryz.pinned.checked.prog 6 Tryz.f6 (OpenSpec.ofChange Rows.topRingsSpec).bare Rows.topRingsRow=true:=by
 unfold joinedFacts
 simp only [Bool.and_eq_true]
 repeat' apply And.intro
 all_goals (as_aux_lemma=>kernel_rfl)
theorem said:Rows.TopRingsSaid:=
 OpenClaim.holds_of_cond 6 Tryz.f6 rfl rfl rfl rfl rfl rfl rfl ⟨rfl,rfl,rfl,rfl,rfl⟩ rfl rfl rfl rfl rfl named Tryz.func6 closed
  (of_decide_eq_true (by kernel_rfl)) (by unfold Func.isWrapper;first | (rw [if_pos (by decide +kernel)];kernel_rfl) | (rw [if_neg (by decide +kernel)];exact ⟨rfl,rfl⟩))
  (fun os started H enc _ F=>by rw [OpenClaim.pre_eq_preRow];exact lifted os started H enc F)
theorem plain (f : FuncId) (fn : Func) (hf : Tryz.pinned.checked.prog.funcNamed "chimework/chimetop.TopRings" = some f) (hfn : Tryz.pinned.checked.prog.funcs[f]? = some fn) :
 ∀ (j:Nat) t,fn.params[j]?=some t→Tryz.pinned.checked.prog.wantsStandIn t=false:=by
 obtain rfl : f = 6 := Option.some.inj ((show Tryz.prog.funcNamed "chimework/chimetop.TopRings" = some 6 by kernel_rfl).symm.trans hf) |>.symm
 obtain rfl:fn=Tryz.f6:=(Option.some.inj (Tryz.func6.symm.trans hfn)).symm
 intro j t ht
 rw [Tryz.params6] at ht
 have hm:t∈[24,40,3,34]:=by simpa using Array.mem_of_getElem? ht
 have hall:([24,40,3,34].all fun u=>!Tryz.prog.wantsStandIn u)=true:=by kernel_rfl
 exact (show Tryz.prog.wantsStandIn t=false by simpa using List.all_eq_true.1 hall t hm)
theorem card:Rows.TopRingsCardSaid:=
 Claim7.holds_tied_plain_at .later [] _ _ _ _ said (fun _ h=>by cases h) (by kernel_rfl) (fun _ h=>by cases h) topRings_row_tie rfl ⟨rfl,rfl⟩ (by kernel_rfl) rfl (fun f fn h1 h2=>⟨by kernel_rfl,plain f fn h1 h2⟩) (by kernel_rfl)
end Go.Proofs.YthdohcjingfpoaaGreatDoor.topRings
namespace Go.Proofs.YthdohcjingfpoaaGreatDoor
theorem topRings_holds:Rows.TopRingsCardSaid:=topRings.card
#print axioms topRings_holds
end Go.Proofs.YthdohcjingfpoaaGreatDoor
