/-
  What is proved: chimelaw2.PlanTells returns true for every two zones, two lists of events and five numbers that are together of bulk at most 1048576, and leaves all that was there as it was. Conditions: that bound; the table of months and errors.errorType hold at the start what the text of the program and of the library lays (the card ties them to that text).
-/
import Derived.Test.YtoncfgfjdlgfcaaGreatDoorBM
import Derived.Test.YtoncfgfjdlgfcaaGreatDoorBzSort
import Derived.Test.YtoncfgfjdlgfcaaGreatDoorPtW
import Derived.LaidHandle
import Derived.Deep.DeepWitnessRowRef
import Derived.Deep.DeepLaidRun
namespace Go.Proofs.YtoncfgfjdlgfcaaGreatDoor.planTells
open Go.ChangeShapes Go.WideShapes Go.ChangeAt Go.RowKit Go.Joins Go.ChangeMaps Cal Txt
theorem gEt : Tryz.prog.globalNamed "errors.errorType" = some 1 := by kernel_rfl
theorem rtName : (Tryz.prog.cutTypes.find? (·.1 == "internal/reflectlite.rtype")).map (·.2) = some 231 := by kernel_rfl
theorem oneRow:((List.range 340).filter fun t=>Tryz.prog.rowNamed t [101,114,114,111,114])=[35]:=by kernel_rfl
theorem typesSize:Tryz.prog.types.size=340:=by kernel_rfl
theorem parted {W : World} (h : laidMetH Tryz.prog Rows.planTellsUptoRow.laid W) : laidMet Tryz.prog [("chimework/day.monthDays", Rows.laid_chimework_day_monthDays)] W ∧ handlesMet Tryz.prog [("errors.errorType", Rows.laid_errors_errorType)] W := h
theorem data {W : World} (h : laidMetH Tryz.prog Rows.planTellsUptoRow.laid W) : laidMet Tryz.prog [("chimework/day.monthDays", Rows.laid_chimework_day_monthDays)] W := (parted h).1
theorem handle {W:World} (h:laidMetH Tryz.prog Rows.planTellsUptoRow.laid W):ErrTy W:=by
 obtain ⟨name,u,ty,e1,e2,e3,e4,e5⟩:=(parted h).2 _ (List.mem_singleton.2 rfl)
 have en:name=[101,114,114,111,114]:=(Option.some.inj e1).symm
 subst en
 obtain rfl:=Option.some.inj (rtName.symm.trans e2)
 have hm:ty∈(List.range 340).filter fun t=>Tryz.prog.rowNamed t [101,114,114,111,114]:=List.mem_filter.2 ⟨List.mem_range.2 (by rw [← typesSize];exact e3),e4⟩
 rw [oneRow] at hm
 obtain rfl:=List.mem_singleton.1 hm
 have hh:typeHandle Tryz.prog 35=.pointer (some ⟨2,35,none⟩):=by kernel_rfl
 rw [hh] at e5
 unfold ErrTy
 simpa using World.var?_cell gEt e5 0
theorem reads_monthDays {W : World} (h : laidMetH Tryz.prog Rows.planTellsUptoRow.laid W) : Reads Tryz.prog W "chimework/day.monthDays" Rows.laid_chimework_day_monthDays := reads_of (data h) (by simp)
theorem laidOut:laidOutB Tryz.prog=true:=by kernel_rfl
theorem read_eventsb:Tryz.prog.readableRec 25=true:=by kernel_rfl
theorem row_eventsb:25<Tryz.prog.types.size:=of_decide_eq_true (by kernel_rfl)
theorem read_zone:Tryz.prog.readableRec 24=true:=by kernel_rfl
theorem row_zone:24<Tryz.prog.types.size:=of_decide_eq_true (by kernel_rfl)
set_option maxRecDepth 100000 in
theorem contract (H:Type) (enc:TypeId × Value→H) (W:World) (base:Nat) (args:Array Value) (ds gs:List (DataW H)) (before:List MemPlace)
 (hval:∀ (j:Nat) t v,Tryz.f4.params[j]?=some t→args[j]?=some v→Value.okWide Tryz.prog W .any base t v)
 (hW:DataW.Whole enc Tryz.prog Tryz.f4.params.toList Rows.planTellsSpec.vars false W args.toList ds gs before) (hk:Rows.uptoSmall H (ds++gs)=true) (hL:laidMetH Tryz.prog Rows.planTellsUptoRow.laid W) :
 Calls Tryz.prog 4 args W fun e W'=>∃ v,e=.returned v∧Rows.planTellsSpec.post enc Tryz.prog Tryz.f4 false true false false W args v W':=by
 have hW':=hW
 obtain ⟨p,q,hA0,hV,rfl,hfz,hnd⟩:=hW
 have hA:DataW.TrodAll enc Tryz.prog W 0 (fun _=>true) true Tryz.f4.params.toList args.toList ds p:=hA0
 rw [Tryz.params4] at hA hval
 obtain ⟨v0,vs0,d0,ds0,p0,q0,hargs,rfl,rfl,h0,r0⟩:=trodAll_cons hA
 obtain ⟨v1,vs1,d1,ds1,p1,q1,rfl,rfl,rfl,h1,r1⟩:=trodAll_cons r0
 obtain ⟨v2,vs2,d2,ds2,p2,q2,rfl,rfl,rfl,h2,r2⟩:=trodAll_cons r1
 obtain ⟨v3,vs3,d3,ds3,p3,q3,rfl,rfl,rfl,h3,r3⟩:=trodAll_cons r2
 obtain ⟨v4,vs4,d4,ds4,p4,q4,rfl,rfl,rfl,h4,r4⟩:=trodAll_cons r3
 obtain ⟨v5,vs5,d5,ds5,p5,q5,rfl,rfl,rfl,h5,r5⟩:=trodAll_cons r4
 obtain ⟨v6,vs6,d6,ds6,p6,q6,rfl,rfl,rfl,h6,r6⟩:=trodAll_cons r5
 obtain ⟨v7,vs7,d7,ds7,p7,q7,rfl,rfl,rfl,h7,r7⟩:=trodAll_cons r6
 obtain ⟨v8,vs8,d8,ds8,p8,q8,rfl,rfl,rfl,h8,r8⟩:=trodAll_cons r7
 obtain ⟨rfl,rfl,rfl⟩:=trodAll_nil r8
 obtain rfl:args=#[v0,v1,v2,v3,v4,v5,v6,v7,v8]:=Array.ext' hargs
 obtain ⟨rfl,rfl⟩:=trodVars_none hV
 obtain ⟨x0,l0,hr0⟩:=Zo.zone_open (hval 0 24 v0 rfl rfl) h0
 obtain ⟨l1,hr1,hu1,hw1⟩:=eventsB_open (hval 1 25 v1 rfl rfl) h1
 obtain ⟨x2,l2,hr2⟩:=Zo.zone_open (hval 2 24 v2 rfl rfl) h2
 obtain ⟨l3,hr3,hu3,hw3⟩:=eventsB_open (hval 3 25 v3 rfl rfl) h3
 obtain ⟨a4,rfl,rfl,rfl,z4⟩:=open_int Tryz.underlying3 (hval 4 3 v4 rfl rfl) h4
 obtain ⟨a5,rfl,rfl,rfl,z5⟩:=open_int Tryz.underlying3 (hval 5 3 v5 rfl rfl) h5
 obtain ⟨a6,rfl,rfl,rfl,z6⟩:=open_int Tryz.underlying3 (hval 6 3 v6 rfl rfl) h6
 obtain ⟨a7,rfl,rfl,rfl,z7⟩:=open_int Tryz.underlying3 (hval 7 3 v7 rfl rfl) h7
 obtain ⟨a8,rfl,rfl,rfl,z8⟩:=open_int Tryz.underlying3 (hval 8 3 v8 rfl rfl) h8
 have hbulk:=of_decide_eq_true hk
 simp only [List.append_nil,Rows.uptoBulkAll] at hbulk
 have hlt0:∀ x∈p0,x.block<W.heap.size:=by
  obtain ⟨fuel,hf⟩:=h0
  exact DataW.trod_lt fuel _ _ _ hf
 have hlt1:∀ x∈p1,x.block<W.heap.size:=by
  obtain ⟨fuel,hf⟩:=h1
  exact DataW.trod_lt fuel _ _ _ hf
 have hlt2:∀ x∈p2,x.block<W.heap.size:=by
  obtain ⟨fuel,hf⟩:=h2
  exact DataW.trod_lt fuel _ _ _ hf
 have hlt3:∀ x∈p3,x.block<W.heap.size:=by
  obtain ⟨fuel,hf⟩:=h3
  exact DataW.trod_lt fuel _ _ _ hf
 clear hA0
 simp only [List.append_nil] at hW'
 refine (Pp.ptells Bz.srtH x0 l0 _ l1 _ x2 l2 _ l3 _ a4 a5 a6 a7 a8 W hr0 hr1 hu1 (fun x hx=>Nat.le_trans (hw1 x hx) (by omega)) hr2 hr3 hu3 (fun x hx=>Nat.le_trans (hw3 x hx) (by omega)) (tab_of_reads (reads_monthDays hL)) (handle hL)).mono fun x W' ⟨he,hb⟩=>?_
 subst he
 refine ⟨_,rfl,_,_,_,[],p0++(p1++(p2++(p3++([]++([]++([]++([]++([]++([]))))))))),[],hW',?_,?_,?_,hb.frame _,fun h=>by cases h⟩
 ·exact trodAll_mk1 (shut_bool Tryz.underlying4 true)
 ·exact trodAll_cons_mk (Below.trod laidOut read_zone row_zone h0 hb hlt0) (trodAll_cons_mk (Below.trod laidOut read_eventsb row_eventsb h1 hb hlt1) (trodAll_cons_mk (Below.trod laidOut read_zone row_zone h2 hb hlt2) (trodAll_cons_mk (Below.trod laidOut read_eventsb row_eventsb h3 hb hlt3) (trodAll_cons_mk (shut_int Tryz.underlying3 z4) (trodAll_cons_mk (shut_int Tryz.underlying3 z5) (trodAll_cons_mk (shut_int Tryz.underlying3 z6) (trodAll_cons_mk (shut_int Tryz.underlying3 z7) (trodAll_cons_mk (shut_int Tryz.underlying3 z8) (trodAll_mk0)))))))))
 ·rfl
noncomputable def low:Nat:=(World.holding Tryz.prog default ⟨#[],#[],[]⟩).heap.size
def layTy:Obj→Obj
 | .cells _ t frozen=>.cells #[.iface 231 (.agg #[.pointer (some ⟨2,35,none⟩)])] t frozen
 | o=>o
theorem laid_met (os:Os):laidMetH Tryz.prog Rows.planTellsUptoRow.laid (({ World.holding Tryz.prog os ⟨#[],#[],[]⟩ with heap:=(((World.holding Tryz.prog os ⟨#[],#[],[]⟩).heap.modify 0 (layInts Rows.laid_chimework_day_monthDays)).modify 1 layTy) }:World).forCall (fun _ _=>0) ⟨#[],#[.agg #[.int .i64 0,.slice none 0 0],.slice none 0 0,.agg #[.int .i64 0,.slice none 0 0],.slice none 0 0,.int .i64 0,.int .i64 0,.int .i64 0,.int .i64 0,.int .i64 0],[]⟩).memory:=
 laidMetH_of_parts (laidMet_of_run3 8 (by kernel_rfl) (by kernel_rfl) (by kernel_rfl)) (by kernel_rfl)
theorem reads (os:Os) {H:Type} (enc:TypeId × Value→H):∃ places,DataW.whole enc Tryz.prog (({ World.holding Tryz.prog os ⟨#[],#[],[]⟩ with heap:=(((World.holding Tryz.prog os ⟨#[],#[],[]⟩).heap.modify 0 (layInts Rows.laid_chimework_day_monthDays)).modify 1 layTy) }:World).forCall (fun _ _=>0) ⟨#[],#[.agg #[.int .i64 0,.slice none 0 0],.slice none 0 0,.agg #[.int .i64 0,.slice none 0 0],.slice none 0 0,.int .i64 0,.int .i64 0,.int .i64 0,.int .i64 0,.int .i64 0],[]⟩).memory Tryz.f4.params.toList Rows.planTellsSpec.vars false (#[.agg #[.int .i64 0,.slice none 0 0],.slice none 0 0,.agg #[.int .i64 0,.slice none 0 0],.slice none 0 0,.int .i64 0,.int .i64 0,.int .i64 0,.int .i64 0,.int .i64 0]:Array Value).toList 8=some ([.agg [.lit (.int .i64 0),.nil],.nil,.agg [.lit (.int .i64 0),.nil],.nil,.lit (.int .i64 0),.lit (.int .i64 0),.lit (.int .i64 0),.lit (.int .i64 0),.lit (.int .i64 0)],[],places):=
 ⟨[],by kernel_rfl⟩
set_option maxRecDepth 100000 in
theorem lifted (os:Os) (started:os.Started) (H:Type) (enc:TypeId × Value→H) (F:Stop.Interp) :
 ReturnsInHanded {} Tryz.checked os 4 .any ((Rows.OpenSpec.upto Rows.planTellsSpec).preRow enc Tryz.prog Tryz.f4 Rows.planTellsUptoRow.domain false Rows.planTellsUptoRow.laid) (((Rows.OpenSpec.upto Rows.planTellsSpec).at F).post enc Tryz.prog Tryz.f4 false true false false):=by
 obtain ⟨places,hx⟩:=reads os enc
 refine returnsInHanded_of_row (C:=Tryz.checked) (s:=Rows.OpenSpec.upto Rows.planTellsSpec) own started (by kernel_rfl) Tryz.func4
  (witness_row_atRef (enc:=enc) (C:=Tryz.checked) false ({ World.holding Tryz.prog os ⟨#[],#[],[]⟩ with heap:=(((World.holding Tryz.prog os ⟨#[],#[],[]⟩).heap.modify 0 (layInts Rows.laid_chimework_day_monthDays)).modify 1 layTy) }:World) #[.agg #[.int .i64 0,.slice none 0 0],.slice none 0 0,.agg #[.int .i64 0,.slice none 0 0],.slice none 0 0,.int .i64 0,.int .i64 0,.int .i64 0,.int .i64 0,.int .i64 0] rfl (by kernel_rfl) (by kernel_rfl) (by kernel_rfl)
   (OpenSpec.preRow_of_cond 8 hx (by kernel_rfl) (fun k hk=>by cases hk;kernel_rfl) (by kernel_rfl) (laid_met os))) ?_
 intro W base args ds gs before hval hW _ hcond _ hL _ _
 exact contract H enc W base args ds gs before hval hW (hcond _ rfl) hL
theorem named:Tryz.pinned.checked.prog.funcNamed Rows.planTellsUptoRow.func=some 4:=by kernel_rfl
set_option maxHeartbeats 20000000 in
theorem closed:joinedFacts Tryz.pinned.checked.prog 4 Tryz.f4 (Rows.OpenSpec.upto Rows.planTellsSpec).bare Rows.planTellsUptoRow=true:=by
 unfold joinedFacts
 simp only [Bool.and_eq_true]
 repeat' apply And.intro
 all_goals (as_aux_lemma=>kernel_rfl)
theorem said:Rows.PlanTellsUptoSaid:=
 OpenClaim.holds_of_cond 4 Tryz.f4 rfl rfl rfl rfl rfl rfl rfl ⟨rfl,rfl,rfl,rfl,rfl⟩ rfl rfl rfl rfl rfl named Tryz.func4 closed
  (of_decide_eq_true (by kernel_rfl)) (by unfold Func.isWrapper;first | (rw [if_pos (by decide +kernel)];kernel_rfl) | (rw [if_neg (by decide +kernel)];exact ⟨rfl,rfl⟩))
  (fun os started H enc _ F=>by rw [OpenClaim.pre_eq_preRow];exact lifted os started H enc F)
theorem plain (f : FuncId) (fn : Func) (hf : Tryz.pinned.checked.prog.funcNamed "chimework/chimelaw2.PlanTells" = some f) (hfn : Tryz.pinned.checked.prog.funcs[f]? = some fn) :
 ∀ (j:Nat) t,fn.params[j]?=some t→Tryz.pinned.checked.prog.wantsStandIn t=false:=by
 obtain rfl : f = 4 := Option.some.inj ((show Tryz.prog.funcNamed "chimework/chimelaw2.PlanTells" = some 4 by kernel_rfl).symm.trans hf) |>.symm
 obtain rfl:fn=Tryz.f4:=(Option.some.inj (Tryz.func4.symm.trans hfn)).symm
 intro j t ht
 rw [Tryz.params4] at ht
 have hm:t∈[24,25,24,25,3,3,3,3,3]:=by simpa using Array.mem_of_getElem? ht
 have hall:([24,25,24,25,3,3,3,3,3].all fun u=>!Tryz.prog.wantsStandIn u)=true:=by kernel_rfl
 exact (show Tryz.prog.wantsStandIn t=false by simpa using List.all_eq_true.1 hall t hm)
theorem card:Rows.PlanTellsUptoCardSaid:=
 Claim7.holds_tied_plain_at .later [] _ _ _ _ said (fun _ h=>by cases h) (by kernel_rfl) (fun _ h=>by cases h) planTellsUpto_row_tie rfl ⟨rfl,rfl⟩ (by kernel_rfl) rfl (fun f fn h1 h2=>⟨by kernel_rfl,plain f fn h1 h2⟩) (by kernel_rfl)
end Go.Proofs.YtoncfgfjdlgfcaaGreatDoor.planTells
namespace Go.Proofs.YtoncfgfjdlgfcaaGreatDoor
theorem planTellsUpto_holds:Rows.PlanTellsUptoCardSaid:=planTells.card
#print axioms planTellsUpto_holds
end Go.Proofs.YtoncfgfjdlgfcaaGreatDoor
