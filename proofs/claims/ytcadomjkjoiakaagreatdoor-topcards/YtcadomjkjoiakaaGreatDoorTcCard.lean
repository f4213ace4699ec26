/-
  What is proved: chimetop.TopCards returns true for every zone, event and two numbers, and leaves all that was there as it was. Conditions: the tables, words and errors that it reads hold at the start what the text of the program and of the library lays (the card ties them to that text).
-/
import Derived.Test.YtcadomjkjoiakaaGreatDoorOP
import Derived.Test.YtcadomjkjoiakaaGreatDoorTZ
import Derived.Deep.DeepWitnessRowRef
import Derived.Deep.DeepLaidRun
namespace Go.Proofs.YtcadomjkjoiakaaGreatDoor.topCards
open Go.ChangeShapes Go.WideShapes Go.ChangeAt Go.RowKit Go.Joins Go.ChangeMaps Cal Txt
theorem data {W : World} (h : laidMetH Tryz.prog Rows.topCardsRow.laid W) : laidMet Tryz.prog [("chimework/day.monthDays", Rows.laid_chimework_day_monthDays), ("math/bits.deBruijn32tab", Rows.laid_math_bits_deBruijn32tab), ("math/bits.deBruijn64tab", Rows.laid_math_bits_deBruijn64tab), ("internal/strconv.uint64pow10", Rows.laid_internal_strconv_uint64pow10), ("unicode/utf8.acceptRanges", Rows.laid_unicode_utf8_acceptRanges), ("strconv.ErrRange", Rows.laid_strconv_ErrRange), ("strconv.ErrSyntax", Rows.laid_strconv_ErrSyntax), ("chimework/clock.units", Rows.laid_chimework_clock_units), ("chimework/line.marked", Rows.laid_chimework_line_marked), ("chimework/rule.partWords", Rows.laid_chimework_rule_partWords), ("chimework/rule.freqWords", Rows.laid_chimework_rule_freqWords), ("chimework/rule.weekdayWords", Rows.laid_chimework_rule_weekdayWords), ("chimework/card.kinds", Rows.laid_chimework_card_kinds), ("unicode/utf8.first", Rows.laid_unicode_utf8_first)] W := h
theorem reads_monthDays {W : World} (h : laidMetH Tryz.prog Rows.topCardsRow.laid W) : Reads Tryz.prog W "chimework/day.monthDays" Rows.laid_chimework_day_monthDays := reads_of (data h) (by simp)
theorem reads_deBruijn32tab {W : World} (h : laidMetH Tryz.prog Rows.topCardsRow.laid W) : Reads Tryz.prog W "math/bits.deBruijn32tab" Rows.laid_math_bits_deBruijn32tab := reads_of (data h) (by simp)
theorem reads_deBruijn64tab {W : World} (h : laidMetH Tryz.prog Rows.topCardsRow.laid W) : Reads Tryz.prog W "math/bits.deBruijn64tab" Rows.laid_math_bits_deBruijn64tab := reads_of (data h) (by simp)
theorem reads_uint64pow10 {W : World} (h : laidMetH Tryz.prog Rows.topCardsRow.laid W) : Reads Tryz.prog W "internal/strconv.uint64pow10" Rows.laid_internal_strconv_uint64pow10 := reads_of (data h) (by simp)
theorem reads_acceptRanges {W : World} (h : laidMetH Tryz.prog Rows.topCardsRow.laid W) : Reads Tryz.prog W "unicode/utf8.acceptRanges" Rows.laid_unicode_utf8_acceptRanges := reads_of (data h) (by simp)
theorem reads_ErrRange {W : World} (h : laidMetH Tryz.prog Rows.topCardsRow.laid W) : Reads Tryz.prog W "strconv.ErrRange" Rows.laid_strconv_ErrRange := reads_of (data h) (by simp)
theorem reads_ErrSyntax {W : World} (h : laidMetH Tryz.prog Rows.topCardsRow.laid W) : Reads Tryz.prog W "strconv.ErrSyntax" Rows.laid_strconv_ErrSyntax := reads_of (data h) (by simp)
theorem reads_units {W : World} (h : laidMetH Tryz.prog Rows.topCardsRow.laid W) : Reads Tryz.prog W "chimework/clock.units" Rows.laid_chimework_clock_units := reads_of (data h) (by simp)
theorem reads_marked {W : World} (h : laidMetH Tryz.prog Rows.topCardsRow.laid W) : Reads Tryz.prog W "chimework/line.marked" Rows.laid_chimework_line_marked := reads_of (data h) (by simp)
theorem reads_partWords {W : World} (h : laidMetH Tryz.prog Rows.topCardsRow.laid W) : Reads Tryz.prog W "chimework/rule.partWords" Rows.laid_chimework_rule_partWords := reads_of (data h) (by simp)
theorem reads_freqWords {W : World} (h : laidMetH Tryz.prog Rows.topCardsRow.laid W) : Reads Tryz.prog W "chimework/rule.freqWords" Rows.laid_chimework_rule_freqWords := reads_of (data h) (by simp)
theorem reads_weekdayWords {W : World} (h : laidMetH Tryz.prog Rows.topCardsRow.laid W) : Reads Tryz.prog W "chimework/rule.weekdayWords" Rows.laid_chimework_rule_weekdayWords := reads_of (data h) (by simp)
theorem reads_kinds {W : World} (h : laidMetH Tryz.prog Rows.topCardsRow.laid W) : Reads Tryz.prog W "chimework/card.kinds" Rows.laid_chimework_card_kinds := reads_of (data h) (by simp)
theorem reads_first {W : World} (h : laidMetH Tryz.prog Rows.topCardsRow.laid W) : Reads Tryz.prog W "unicode/utf8.first" Rows.laid_unicode_utf8_first := reads_of (data h) (by simp)
theorem laidOut:laidOutB Tryz.prog=true:=by kernel_rfl
theorem read_event:Tryz.prog.readableRec 32=true:=by kernel_rfl
theorem row_event:32<Tryz.prog.types.size:=of_decide_eq_true (by kernel_rfl)
theorem read_zone:Tryz.prog.readableRec 24=true:=by kernel_rfl
theorem row_zone:24<Tryz.prog.types.size:=of_decide_eq_true (by kernel_rfl)
set_option maxRecDepth 100000 in
theorem contract (H:Type) (enc:TypeId × Value→H) (W:World) (base:Nat) (args:Array Value) (ds gs:List (DataW H)) (before:List MemPlace)
 (hval:∀ (j:Nat) t v,Tryz.f3.params[j]?=some t→args[j]?=some v→Value.okWide Tryz.prog W .any base t v)
 (hW:DataW.Whole enc Tryz.prog Tryz.f3.params.toList Rows.topCardsSpec.vars false W args.toList ds gs before) (hL:laidMetH Tryz.prog Rows.topCardsRow.laid W) :
 Calls Tryz.prog 3 args W fun e W'=>∃ v,e=.returned v∧Rows.topCardsSpec.post enc Tryz.prog Tryz.f3 false true false false W args v W':=by
 have hW':=hW
 obtain ⟨p,q,hA0,hV,rfl,hfz,hnd⟩:=hW
 have hA:DataW.TrodAll enc Tryz.prog W 0 (fun _=>true) true Tryz.f3.params.toList args.toList ds p:=hA0
 rw [Tryz.params3] at hA hval
 obtain ⟨v0,vs0,d0,ds0,p0,q0,hargs,rfl,rfl,h0,r0⟩:=trodAll_cons hA
 obtain ⟨v1,vs1,d1,ds1,p1,q1,rfl,rfl,rfl,h1,r1⟩:=trodAll_cons r0
 obtain ⟨v2,vs2,d2,ds2,p2,q2,rfl,rfl,rfl,h2,r2⟩:=trodAll_cons r1
 obtain ⟨v3,vs3,d3,ds3,p3,q3,rfl,rfl,rfl,h3,r3⟩:=trodAll_cons r2
 obtain ⟨rfl,rfl,rfl⟩:=trodAll_nil r3
 obtain rfl:args=#[v0,v1,v2,v3]:=Array.ext' hargs
 obtain ⟨rfl,rfl⟩:=trodVars_none hV
 obtain ⟨x0,l0,hr0⟩:=Zo.zone_open (hval 0 24 v0 rfl rfl) h0
 obtain ⟨e1,s1,rfl,hr1⟩:=event_open (hval 1 32 v1 rfl rfl) h1
 obtain ⟨a2,rfl,rfl,rfl,z2⟩:=open_int Tryz.underlying3 (hval 2 3 v2 rfl rfl) h2
 obtain ⟨a3,rfl,rfl,rfl,z3⟩:=open_int Tryz.underlying3 (hval 3 3 v3 rfl rfl) h3
 have hlt0:∀ x∈p0,x.block<W.heap.size:=by
  obtain ⟨fuel,hf⟩:=h0
  exact DataW.trod_lt fuel _ _ _ hf
 have hlt1:∀ x∈p1,x.block<W.heap.size:=by
  obtain ⟨fuel,hf⟩:=h1
  exact DataW.trod_lt fuel _ _ _ hf
 clear hA0
 simp only [List.append_nil] at hW'
 refine (tcards x0 l0 _ e1 s1 a2 a3 W hr0 hr1 ⟨⟨pow_of (reads_uint64pow10 hL),Cbo.ers_of (reads_ErrSyntax hL) (reads_ErrRange hL),wdw_of (reads_weekdayWords hL),tab_of_reads (reads_monthDays hL),paw_of (reads_partWords hL),frw_of (reads_freqWords hL)⟩,Cbo.uni_of (reads_units hL),Cbo.mrk_of (reads_marked hL),Cbo.knd_of (reads_kinds hL)⟩ (tab_of_reads (reads_monthDays hL))).mono fun x W' ⟨he,hb⟩=>?_
 subst he
 refine ⟨_,rfl,_,_,_,[],p0++(p1++([]++([]++([])))),[],hW',?_,?_,?_,hb.frame _,fun h=>by cases h⟩
 ·exact trodAll_mk1 (shut_bool Tryz.underlying4 true)
 ·exact trodAll_cons_mk (Below.trod laidOut read_zone row_zone h0 hb hlt0) (trodAll_cons_mk (Below.trod laidOut read_event row_event h1 hb hlt1) (trodAll_cons_mk (shut_int Tryz.underlying3 z2) (trodAll_cons_mk (shut_int Tryz.underlying3 z3) (trodAll_mk0))))
 ·rfl
noncomputable def low:Nat:=(World.holding Tryz.prog default ⟨#[],#[],[]⟩).heap.size
def layErr:DataW Unit→Obj
 | .iface _ (.ptr (.agg [.lit (.string s)]))=>.cells #[.string ⟨s.toArray⟩] 310
 | _=>.cells #[] 310
def laySent (b:Nat):Obj→Obj
 | .cells _ t frozen=>.cells #[.iface 308 (.pointer (some ⟨b,0,none⟩))] t frozen
 | o=>o
def litCellB:DataW Unit→Value
 | .lit (.int k z)=>.int k z
 | .lit (.string s)=>.string ⟨s.toArray⟩
 | .lit (.bool b)=>.bool b
 | _=>.bool false
def layRowsB (d:DataW Unit):Obj→Obj
 | .cells _ t frozen=>.cells ((lits d).flatMap fun r=>(lits r).map litCellB).toArray t frozen
 | o=>o
theorem laid_met (os:Os):laidMet Tryz.prog Rows.topCardsRow.laid (({ World.holding Tryz.prog os ⟨#[layErr Rows.laid_strconv_ErrRange,layErr Rows.laid_strconv_ErrSyntax],#[],[]⟩ with heap:=(((((((((((((((World.holding Tryz.prog os ⟨#[layErr Rows.laid_strconv_ErrRange,layErr Rows.laid_strconv_ErrSyntax],#[],[]⟩).heap.modify 6 (layInts Rows.laid_chimework_day_monthDays)).modify 11 (layInts Rows.laid_math_bits_deBruijn32tab)).modify 12 (layInts Rows.laid_math_bits_deBruijn64tab)).modify 8 (layInts Rows.laid_internal_strconv_uint64pow10)).modify 14 (layRows Rows.laid_unicode_utf8_acceptRanges)).modify 10 (laySent (low + 0))).modify 9 (laySent (low + 1))).modify 2 (layRows Rows.laid_chimework_clock_units)).modify 1 (layRows Rows.laid_chimework_line_marked)).modify 4 (layInts Rows.laid_chimework_rule_partWords)).modify 3 (layInts Rows.laid_chimework_rule_freqWords)).modify 7 (layInts Rows.laid_chimework_rule_weekdayWords)).modify 0 (layRowsB Rows.laid_chimework_card_kinds)).modify 13 (layInts Rows.laid_unicode_utf8_first)) }:World).forCall (fun _ _=>0) ⟨#[],#[.agg #[.int .i64 0,.slice none 0 0],.agg #[.string ⟨#[]⟩,.string ⟨#[]⟩,.int .i64 0,.int .i64 0,.bool false,.int .i64 0,.int .i64 0,.int .i64 0,.int .i64 0,.slice none 0 0,.slice none 0 0,.slice none 0 0,.slice none 0 0,.slice none 0 0,.slice none 0 0,.slice none 0 0,.slice none 0 0],.int .i64 0,.int .i64 0],[]⟩).memory:=
 laidMet_of_run3 8 (by kernel_rfl) (by kernel_rfl) (by kernel_rfl)
theorem reads (os:Os) {H:Type} (enc:TypeId × Value→H):∃ places,DataW.whole enc Tryz.prog (({ World.holding Tryz.prog os ⟨#[layErr Rows.laid_strconv_ErrRange,layErr Rows.laid_strconv_ErrSyntax],#[],[]⟩ with heap:=(((((((((((((((World.holding Tryz.prog os ⟨#[layErr Rows.laid_strconv_ErrRange,layErr Rows.laid_strconv_ErrSyntax],#[],[]⟩).heap.modify 6 (layInts Rows.laid_chimework_day_monthDays)).modify 11 (layInts Rows.laid_math_bits_deBruijn32tab)).modify 12 (layInts Rows.laid_math_bits_deBruijn64tab)).modify 8 (layInts Rows.laid_internal_strconv_uint64pow10)).modify 14 (layRows Rows.laid_unicode_utf8_acceptRanges)).modify 10 (laySent (low + 0))).modify 9 (laySent (low + 1))).modify 2 (layRows Rows.laid_chimework_clock_units)).modify 1 (layRows Rows.laid_chimework_line_marked)).modify 4 (layInts Rows.laid_chimework_rule_partWords)).modify 3 (layInts Rows.laid_chimework_rule_freqWords)).modify 7 (layInts Rows.laid_chimework_rule_weekdayWords)).modify 0 (layRowsB Rows.laid_chimework_card_kinds)).modify 13 (layInts Rows.laid_unicode_utf8_first)) }:World).forCall (fun _ _=>0) ⟨#[],#[.agg #[.int .i64 0,.slice none 0 0],.agg #[.string ⟨#[]⟩,.string ⟨#[]⟩,.int .i64 0,.int .i64 0,.bool false,.int .i64 0,.int .i64 0,.int .i64 0,.int .i64 0,.slice none 0 0,.slice none 0 0,.slice none 0 0,.slice none 0 0,.slice none 0 0,.slice none 0 0,.slice none 0 0,.slice none 0 0],.int .i64 0,.int .i64 0],[]⟩).memory Tryz.f3.params.toList Rows.topCardsSpec.vars false (#[.agg #[.int .i64 0,.slice none 0 0],.agg #[.string ⟨#[]⟩,.string ⟨#[]⟩,.int .i64 0,.int .i64 0,.bool false,.int .i64 0,.int .i64 0,.int .i64 0,.int .i64 0,.slice none 0 0,.slice none 0 0,.slice none 0 0,.slice none 0 0,.slice none 0 0,.slice none 0 0,.slice none 0 0,.slice none 0 0],.int .i64 0,.int .i64 0]:Array Value).toList 8=some ([.agg [.lit (.int .i64 0),.nil],.agg [.lit (.string []),.lit (.string []),.lit (.int .i64 0),.lit (.int .i64 0),.lit (.bool false),.agg [.lit (.int .i64 0),.lit (.int .i64 0),.lit (.int .i64 0),.lit (.int .i64 0),.nil,.nil,.nil,.nil],.nil,.nil,.nil,.nil],.lit (.int .i64 0),.lit (.int .i64 0)],[],places):=
 ⟨[],by kernel_rfl⟩
set_option maxRecDepth 100000 in
theorem lifted (os:Os) (started:os.Started) (H:Type) (enc:TypeId × Value→H) (F:Stop.Interp) :
 ReturnsInHanded {} Tryz.checked os 3 .any ((OpenSpec.ofChange Rows.topCardsSpec).preRow enc Tryz.prog Tryz.f3 Rows.topCardsRow.domain false Rows.topCardsRow.laid) (((OpenSpec.ofChange Rows.topCardsSpec).at F).post enc Tryz.prog Tryz.f3 false true false false):=by
 obtain ⟨places,hx⟩:=reads os enc
 refine returnsInHanded_of_row (C:=Tryz.checked) (s:=OpenSpec.ofChange Rows.topCardsSpec) own started (by kernel_rfl) Tryz.func3
  (witness_row_atRef (enc:=enc) (C:=Tryz.checked) false ({ World.holding Tryz.prog os ⟨#[layErr Rows.laid_strconv_ErrRange,layErr Rows.laid_strconv_ErrSyntax],#[],[]⟩ with heap:=(((((((((((((((World.holding Tryz.prog os ⟨#[layErr Rows.laid_strconv_ErrRange,layErr Rows.laid_strconv_ErrSyntax],#[],[]⟩).heap.modify 6 (layInts Rows.laid_chimework_day_monthDays)).modify 11 (layInts Rows.laid_math_bits_deBruijn32tab)).modify 12 (layInts Rows.laid_math_bits_deBruijn64tab)).modify 8 (layInts Rows.laid_internal_strconv_uint64pow10)).modify 14 (layRows Rows.laid_unicode_utf8_acceptRanges)).modify 10 (laySent (low + 0))).modify 9 (laySent (low + 1))).modify 2 (layRows Rows.laid_chimework_clock_units)).modify 1 (layRows Rows.laid_chimework_line_marked)).modify 4 (layInts Rows.laid_chimework_rule_partWords)).modify 3 (layInts Rows.laid_chimework_rule_freqWords)).modify 7 (layInts Rows.laid_chimework_rule_weekdayWords)).modify 0 (layRowsB Rows.laid_chimework_card_kinds)).modify 13 (layInts Rows.laid_unicode_utf8_first)) }:World) #[.agg #[.int .i64 0,.slice none 0 0],.agg #[.string ⟨#[]⟩,.string ⟨#[]⟩,.int .i64 0,.int .i64 0,.bool false,.int .i64 0,.int .i64 0,.int .i64 0,.int .i64 0,.slice none 0 0,.slice none 0 0,.slice none 0 0,.slice none 0 0,.slice none 0 0,.slice none 0 0,.slice none 0 0,.slice none 0 0],.int .i64 0,.int .i64 0] rfl (by kernel_rfl) (by kernel_rfl) (by kernel_rfl)
   (OpenSpec.preRow_of_cond 8 hx (by kernel_rfl) (fun k hk=>by cases hk) (by kernel_rfl) (laid_met os))) ?_
 intro W base args ds gs before hval hW _ _ _ hL _ _
 exact contract H enc W base args ds gs before hval hW hL
theorem named:Tryz.pinned.checked.prog.funcNamed Rows.topCardsRow.func=some 3:=by kernel_rfl
set_option maxHeartbeats 20000000 in
theorem closed:joinedFacts Tryz.pinned.checked.prog 3 Tryz.f3 (OpenSpec.ofChange Rows.topCardsSpec).bare Rows.topCardsRow=true:=by
 unfold joinedFacts
 simp only [Bool.and_eq_true]
 repeat' apply And.intro
 all_goals (as_aux_lemma=>kernel_rfl)
theorem said:Rows.TopCardsSaid:=
 OpenClaim.holds_of_cond 3 Tryz.f3 rfl rfl rfl rfl rfl rfl rfl ⟨rfl,rfl,rfl,rfl,rfl⟩ rfl rfl rfl rfl rfl named Tryz.func3 closed
  (of_decide_eq_true (by kernel_rfl)) (by unfold Func.isWrapper;first | (rw [if_pos (by decide +kernel)];kernel_rfl) | (rw [if_neg (by decide +kernel)];exact ⟨rfl,rfl⟩))
  (fun os started H enc _ F=>by rw [OpenClaim.pre_eq_preRow];exact lifted os started H enc F)
theorem plain (f : FuncId) (fn : Func) (hf : Tryz.pinned.checked.prog.funcNamed "chimework/chimetop.TopCards" = some f) (hfn : Tryz.pinned.checked.prog.funcs[f]? = some fn) :
 ∀ (j:Nat) t,fn.params[j]?=some t→Tryz.pinned.checked.prog.wantsStandIn t=false:=by
 obtain rfl : f = 3 := Option.some.inj ((show Tryz.prog.funcNamed "chimework/chimetop.TopCards" = some 3 by kernel_rfl).symm.trans hf) |>.symm
 obtain rfl:fn=Tryz.f3:=(Option.some.inj (Tryz.func3.symm.trans hfn)).symm
 intro j t ht
 rw [Tryz.params3] at ht
 have hm:t∈[24,32,3,3]:=by simpa using Array.mem_of_getElem? ht
 have hall:([24,32,3,3].all fun u=>!Tryz.prog.wantsStandIn u)=true:=by kernel_rfl
 exact (show Tryz.prog.wantsStandIn t=false by simpa using List.all_eq_true.1 hall t hm)
theorem card:Rows.TopCardsCardSaid:=
 Claim7.holds_tied_plain_at .later [] _ _ _ _ said (fun _ h=>by cases h) (by kernel_rfl) (fun _ h=>by cases h) topCards_row_tie rfl ⟨rfl,rfl⟩ (by kernel_rfl) rfl (fun f fn h1 h2=>⟨by kernel_rfl,plain f fn h1 h2⟩) (by kernel_rfl)
end Go.Proofs.YtcadomjkjoiakaaGreatDoor.topCards
namespace Go.Proofs.YtcadomjkjoiakaaGreatDoor
theorem topCards_holds:Rows.TopCardsCardSaid:=topCards.card
#print axioms topCards_holds
end Go.Proofs.YtcadomjkjoiakaaGreatDoor
