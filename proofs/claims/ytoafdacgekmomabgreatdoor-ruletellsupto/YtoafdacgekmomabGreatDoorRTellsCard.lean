/-
  What is proved: chimelaw1.RuleTells returns true for every rule and every text that are together of bulk at most 1048576, and leaves all that was there as it was. Conditions: that bound; the tables, words and errors that it reads, and errors.errorType, hold at the start what the text of the program and of the library lays (the card ties them to that text).
-/
import Derived.Test.YtoafdacgekmomabGreatDoorRlOpen
import Derived.Test.YtoafdacgekmomabGreatDoorRTells
import Derived.LaidHandle
import Derived.Deep.DeepWitnessRowRef
import Derived.Deep.DeepLaidRun
namespace Go.Proofs.YtoafdacgekmomabGreatDoor.ruleTells
open Go.ChangeShapes Go.WideShapes Go.ChangeAt Go.RowKit Go.Joins Go.ChangeMaps Cal Txt

theorem gEt : Tryz.prog.globalNamed "errors.errorType" = some 2 := by kernel_rfl
theorem rtName : (Tryz.prog.cutTypes.find? (·.1 == "internal/reflectlite.rtype")).map (·.2) = some 119 := by kernel_rfl
theorem oneRow : ((List.range 220).filter fun t => Tryz.prog.rowNamed t [101, 114, 114, 111, 114]) = [29] := by kernel_rfl
theorem typesSize : Tryz.prog.types.size = 220 := by kernel_rfl
theorem parted {W : World} (h : laidMetH Tryz.prog Rows.ruleTellsUptoRow.laid W) : laidMet Tryz.prog [("chimework/day.monthDays", Rows.laid_chimework_day_monthDays), ("math/bits.deBruijn32tab", Rows.laid_math_bits_deBruijn32tab), ("math/bits.deBruijn64tab", Rows.laid_math_bits_deBruijn64tab), ("internal/strconv.uint64pow10", Rows.laid_internal_strconv_uint64pow10), ("unicode/utf8.acceptRanges", Rows.laid_unicode_utf8_acceptRanges), ("strconv.ErrRange", Rows.laid_strconv_ErrRange), ("strconv.ErrSyntax", Rows.laid_strconv_ErrSyntax), ("chimework/rule.partWords", Rows.laid_chimework_rule_partWords), ("chimework/rule.freqWords", Rows.laid_chimework_rule_freqWords), ("chimework/rule.weekdayWords", Rows.laid_chimework_rule_weekdayWords), ("unicode/utf8.first", Rows.laid_unicode_utf8_first)] W ∧ handlesMet Tryz.prog [("errors.errorType", Rows.laid_errors_errorType)] W := h
theorem data {W : World} (h : laidMetH Tryz.prog Rows.ruleTellsUptoRow.laid W) : laidMet Tryz.prog [("chimework/day.monthDays", Rows.laid_chimework_day_monthDays), ("math/bits.deBruijn32tab", Rows.laid_math_bits_deBruijn32tab), ("math/bits.deBruijn64tab", Rows.laid_math_bits_deBruijn64tab), ("internal/strconv.uint64pow10", Rows.laid_internal_strconv_uint64pow10), ("unicode/utf8.acceptRanges", Rows.laid_unicode_utf8_acceptRanges), ("strconv.ErrRange", Rows.laid_strconv_ErrRange), ("strconv.ErrSyntax", Rows.laid_strconv_ErrSyntax), ("chimework/rule.partWords", Rows.laid_chimework_rule_partWords), ("chimework/rule.freqWords", Rows.laid_chimework_rule_freqWords), ("chimework/rule.weekdayWords", Rows.laid_chimework_rule_weekdayWords), ("unicode/utf8.first", Rows.laid_unicode_utf8_first)] W := (parted h).1
theorem handle {W : World} (h : laidMetH Tryz.prog Rows.ruleTellsUptoRow.laid W) : ErrTy W := by
  obtain ⟨name, u, ty, e1, e2, e3, e4, e5⟩ := (parted h).2 _ (List.mem_singleton.2 rfl)
  have en : name = [101, 114, 114, 111, 114] := (Option.some.inj e1).symm
  subst en
  obtain rfl := Option.some.inj (rtName.symm.trans e2)
  have hm : ty ∈ (List.range 220).filter fun t => Tryz.prog.rowNamed t [101, 114, 114, 111, 114] := List.mem_filter.2 ⟨List.mem_range.2 (by rw [← typesSize]; exact e3), e4⟩
  rw [oneRow] at hm
  obtain rfl := List.mem_singleton.1 hm
  have hh : typeHandle Tryz.prog 29 = .pointer (some ⟨13, 29, none⟩) := by kernel_rfl
  rw [hh] at e5
  unfold ErrTy
  simpa using World.var?_cell gEt e5 0
theorem reads_monthDays {W : World} (h : laidMetH Tryz.prog Rows.ruleTellsUptoRow.laid W) : Reads Tryz.prog W "chimework/day.monthDays" Rows.laid_chimework_day_monthDays := reads_of (data h) (by simp)
theorem reads_deBruijn32tab {W : World} (h : laidMetH Tryz.prog Rows.ruleTellsUptoRow.laid W) : Reads Tryz.prog W "math/bits.deBruijn32tab" Rows.laid_math_bits_deBruijn32tab := reads_of (data h) (by simp)
theorem reads_deBruijn64tab {W : World} (h : laidMetH Tryz.prog Rows.ruleTellsUptoRow.laid W) : Reads Tryz.prog W "math/bits.deBruijn64tab" Rows.laid_math_bits_deBruijn64tab := reads_of (data h) (by simp)
theorem reads_uint64pow10 {W : World} (h : laidMetH Tryz.prog Rows.ruleTellsUptoRow.laid W) : Reads Tryz.prog W "internal/strconv.uint64pow10" Rows.laid_internal_strconv_uint64pow10 := reads_of (data h) (by simp)
theorem reads_acceptRanges {W : World} (h : laidMetH Tryz.prog Rows.ruleTellsUptoRow.laid W) : Reads Tryz.prog W "unicode/utf8.acceptRanges" Rows.laid_unicode_utf8_acceptRanges := reads_of (data h) (by simp)
theorem reads_ErrRange {W : World} (h : laidMetH Tryz.prog Rows.ruleTellsUptoRow.laid W) : Reads Tryz.prog W "strconv.ErrRange" Rows.laid_strconv_ErrRange := reads_of (data h) (by simp)
theorem reads_ErrSyntax {W : World} (h : laidMetH Tryz.prog Rows.ruleTellsUptoRow.laid W) : Reads Tryz.prog W "strconv.ErrSyntax" Rows.laid_strconv_ErrSyntax := reads_of (data h) (by simp)
theorem reads_partWords {W : World} (h : laidMetH Tryz.prog Rows.ruleTellsUptoRow.laid W) : Reads Tryz.prog W "chimework/rule.partWords" Rows.laid_chimework_rule_partWords := reads_of (data h) (by simp)
theorem reads_freqWords {W : World} (h : laidMetH Tryz.prog Rows.ruleTellsUptoRow.laid W) : Reads Tryz.prog W "chimework/rule.freqWords" Rows.laid_chimework_rule_freqWords := reads_of (data h) (by simp)
theorem reads_weekdayWords {W : World} (h : laidMetH Tryz.prog Rows.ruleTellsUptoRow.laid W) : Reads Tryz.prog W "chimework/rule.weekdayWords" Rows.laid_chimework_rule_weekdayWords := reads_of (data h) (by simp)
theorem reads_first {W : World} (h : laidMetH Tryz.prog Rows.ruleTellsUptoRow.laid W) : Reads Tryz.prog W "unicode/utf8.first" Rows.laid_unicode_utf8_first := reads_of (data h) (by simp)

theorem laidOut : laidOutB Tryz.prog = true := by kernel_rfl
theorem readRule : Tryz.prog.readableRec 25 = true := by kernel_rfl
theorem rowRule : 25 < Tryz.prog.types.size := of_decide_eq_true (by kernel_rfl)
set_option maxRecDepth 100000 in
/-- What the walk gives, for every argument that is not too great and every world that meets the condition. -/
theorem contract (H : Type) (enc : TypeId × Value → H) (W : World) (base : Nat) (args : Array Value) (ds gs : List (DataW H)) (before : List MemPlace)
    (hval : ∀ (j : Nat) t v, Tryz.f3.params[j]? = some t → args[j]? = some v → Value.okWide Tryz.prog W .any base t v)
    (hW : DataW.Whole enc Tryz.prog Tryz.f3.params.toList Rows.ruleTellsSpec.vars false W args.toList ds gs before) (hk : Rows.uptoSmall H (ds ++ gs) = true) (hL : laidMetH Tryz.prog Rows.ruleTellsUptoRow.laid W) :
    Calls Tryz.prog 3 args W fun e W' => ∃ v, e = .returned v ∧ Rows.ruleTellsSpec.post enc Tryz.prog Tryz.f3 false true false false W args v W' := by
  have hW' := hW
  obtain ⟨p, q, hA0, hV, rfl, hfz, hnd⟩ := hW
  have hA : DataW.TrodAll enc Tryz.prog W 0 (fun _ => true) true Tryz.f3.params.toList args.toList ds p := hA0
  rw [Tryz.params3] at hA hval
  obtain ⟨v0, vs0, d0, ds0, p0, q0, hargs, rfl, rfl, h0, r0⟩ := trodAll_cons hA
  obtain ⟨v1, vs1, d1, ds1, p1, q1, rfl, rfl, rfl, h1, r1⟩ := trodAll_cons r0
  obtain ⟨rfl, rfl, rfl⟩ := trodAll_nil r1
  obtain rfl : args = #[v0, v1] := Array.ext' hargs
  obtain ⟨rfl, rfl⟩ := trodVars_none hV
  obtain ⟨r, hr⟩ := rule_open (hval 0 25 v0 rfl rfl) h0
  obtain ⟨a1, rfl, rfl, rfl, z⟩ := open_string Tryz.underlying9 (hval 1 9 v1 rfl rfl) h1
  have z1 : a1.size ≤ 2000000 := by
    have hb := of_decide_eq_true hk
    simp only [List.append_nil, Rows.uptoBulkAll, Rows.uptoBulk] at hb
    have e : a1.data.toList.length = a1.size := rfl
    omega
  have hlt : ∀ x ∈ p0, x.block < W.heap.size := by
    obtain ⟨fuel, hf⟩ := h0
    exact DataW.trod_lt fuel _ _ _ hf
  clear hA0 hk
  simp only [List.append_nil] at hW'
  refine (rtells r v0 a1 W hr ⟨pow_of (reads_uint64pow10 hL), ers_of (reads_ErrSyntax hL) (reads_ErrRange hL), wdw_of (reads_weekdayWords hL), tab_of_reads (reads_monthDays hL), paw_of (reads_partWords hL), frw_of (reads_freqWords hL)⟩ (handle hL) z1).mono fun e W' ⟨he, hb⟩ => ?_
  subst he
  refine ⟨_, rfl, _, _, _, [], p0 ++ ([] ++ []), [], hW', ?_, ?_, ?_, hb.frame _, fun h => by cases h⟩
  · exact trodAll_mk1 (shut_bool Tryz.underlying4 true)
  · exact trodAll_cons_mk (Below.trod laidOut readRule rowRule h0 hb hlt) (trodAll_cons_mk (shut_string Tryz.underlying9 z) trodAll_mk0)
  · rfl

/-! A world for the witness: the settled one, the listed variables holding what their initialisers lay. -/
noncomputable def low : Nat := (World.holding Tryz.prog default ⟨#[], #[], []⟩).heap.size
def layTy : Obj → Obj
  | .cells _ t frozen => .cells #[.iface 119 (.agg #[.pointer (some ⟨13, 29, none⟩)])] t frozen
  | o => o
def layErr : DataW Unit → Obj
  | .iface _ (.ptr (.agg [.lit (.string s)])) => .cells #[.string ⟨s.toArray⟩] 193
  | _ => .cells #[] 193
def laySent (b : Nat) : Obj → Obj
  | .cells _ t frozen => .cells #[.iface 191 (.pointer (some ⟨b, 0, none⟩))] t frozen
  | o => o
theorem laid_met (os : Os) : laidMetH Tryz.prog Rows.ruleTellsUptoRow.laid (({ World.holding Tryz.prog os ⟨#[layErr Rows.laid_strconv_ErrRange, layErr Rows.laid_strconv_ErrSyntax], #[], []⟩ with heap := (((((((((((((World.holding Tryz.prog os ⟨#[layErr Rows.laid_strconv_ErrRange, layErr Rows.laid_strconv_ErrSyntax], #[], []⟩).heap.modify 4 (layInts Rows.laid_chimework_day_monthDays)).modify 11 (layInts Rows.laid_math_bits_deBruijn32tab)).modify 12 (layInts Rows.laid_math_bits_deBruijn64tab)).modify 6 (layInts Rows.laid_internal_strconv_uint64pow10)).modify 8 (layRows Rows.laid_unicode_utf8_acceptRanges)).modify 10 (laySent (low + 0))).modify 9 (laySent (low + 1))).modify 1 (layInts Rows.laid_chimework_rule_partWords)).modify 0 (layInts Rows.laid_chimework_rule_freqWords)).modify 3 (layInts Rows.laid_chimework_rule_weekdayWords)).modify 7 (layInts Rows.laid_unicode_utf8_first)).modify 2 layTy) } : World).forCall (fun _ _ => 0) ⟨#[], #[.agg #[.int .i64 0, .int .i64 0, .int .i64 0, .int .i64 0, .slice none 0 0, .slice none 0 0, .slice none 0 0, .slice none 0 0], .string ⟨#[]⟩], []⟩).memory :=
  laidMetH_of_parts (laidMet_of_run3 8 (by kernel_rfl) (by kernel_rfl) (by kernel_rfl)) (by kernel_rfl)
theorem reads (os : Os) {H : Type} (enc : TypeId × Value → H) : ∃ places, DataW.whole enc Tryz.prog (({ World.holding Tryz.prog os ⟨#[layErr Rows.laid_strconv_ErrRange, layErr Rows.laid_strconv_ErrSyntax], #[], []⟩ with heap := (((((((((((((World.holding Tryz.prog os ⟨#[layErr Rows.laid_strconv_ErrRange, layErr Rows.laid_strconv_ErrSyntax], #[], []⟩).heap.modify 4 (layInts Rows.laid_chimework_day_monthDays)).modify 11 (layInts Rows.laid_math_bits_deBruijn32tab)).modify 12 (layInts Rows.laid_math_bits_deBruijn64tab)).modify 6 (layInts Rows.laid_internal_strconv_uint64pow10)).modify 8 (layRows Rows.laid_unicode_utf8_acceptRanges)).modify 10 (laySent (low + 0))).modify 9 (laySent (low + 1))).modify 1 (layInts Rows.laid_chimework_rule_partWords)).modify 0 (layInts Rows.laid_chimework_rule_freqWords)).modify 3 (layInts Rows.laid_chimework_rule_weekdayWords)).modify 7 (layInts Rows.laid_unicode_utf8_first)).modify 2 layTy) } : World).forCall (fun _ _ => 0) ⟨#[], #[.agg #[.int .i64 0, .int .i64 0, .int .i64 0, .int .i64 0, .slice none 0 0, .slice none 0 0, .slice none 0 0, .slice none 0 0], .string ⟨#[]⟩], []⟩).memory Tryz.f3.params.toList Rows.ruleTellsSpec.vars false (#[.agg #[.int .i64 0, .int .i64 0, .int .i64 0, .int .i64 0, .slice none 0 0, .slice none 0 0, .slice none 0 0, .slice none 0 0], .string ⟨#[]⟩] : Array Value).toList 8 = some ([.agg [.lit (.int .i64 0), .lit (.int .i64 0), .lit (.int .i64 0), .lit (.int .i64 0), .nil, .nil, .nil, .nil], .lit (.string [])], [], places) :=
  ⟨[], by kernel_rfl⟩

set_option maxRecDepth 100000 in
theorem lifted (os : Os) (started : os.Started) (H : Type) (enc : TypeId × Value → H) (F : Stop.Interp) :
    ReturnsInHanded {} Tryz.checked os 3 .any ((Rows.OpenSpec.upto Rows.ruleTellsSpec).preRow enc Tryz.prog Tryz.f3 Rows.ruleTellsUptoRow.domain false Rows.ruleTellsUptoRow.laid) (((Rows.OpenSpec.upto Rows.ruleTellsSpec).at F).post enc Tryz.prog Tryz.f3 false true false false) := by
  obtain ⟨places, hx⟩ := reads os enc
  refine returnsInHanded_of_row (C := Tryz.checked) (s := Rows.OpenSpec.upto Rows.ruleTellsSpec) own started (by kernel_rfl) Tryz.func3
    (witness_row_atRef (enc := enc) (C := Tryz.checked) false ({ World.holding Tryz.prog os ⟨#[layErr Rows.laid_strconv_ErrRange, layErr Rows.laid_strconv_ErrSyntax], #[], []⟩ with heap := (((((((((((((World.holding Tryz.prog os ⟨#[layErr Rows.laid_strconv_ErrRange, layErr Rows.laid_strconv_ErrSyntax], #[], []⟩).heap.modify 4 (layInts Rows.laid_chimework_day_monthDays)).modify 11 (layInts Rows.laid_math_bits_deBruijn32tab)).modify 12 (layInts Rows.laid_math_bits_deBruijn64tab)).modify 6 (layInts Rows.laid_internal_strconv_uint64pow10)).modify 8 (layRows Rows.laid_unicode_utf8_acceptRanges)).modify 10 (laySent (low + 0))).modify 9 (laySent (low + 1))).modify 1 (layInts Rows.laid_chimework_rule_partWords)).modify 0 (layInts Rows.laid_chimework_rule_freqWords)).modify 3 (layInts Rows.laid_chimework_rule_weekdayWords)).modify 7 (layInts Rows.laid_unicode_utf8_first)).modify 2 layTy) } : World) #[.agg #[.int .i64 0, .int .i64 0, .int .i64 0, .int .i64 0, .slice none 0 0, .slice none 0 0, .slice none 0 0, .slice none 0 0], .string ⟨#[]⟩] rfl (by kernel_rfl) (by kernel_rfl) (by kernel_rfl)
      (OpenSpec.preRow_of_cond 8 hx (by kernel_rfl) (fun k hk => by cases hk; kernel_rfl) (by kernel_rfl) (laid_met os))) ?_
  intro W base args ds gs before hval hW _ hcond _ hL _ _
  exact contract H enc W base args ds gs before hval hW (hcond _ rfl) hL

theorem said : Rows.RuleTellsUptoSaid :=
  OpenClaim.holds_of_cond 3 Tryz.f3 rfl rfl rfl rfl rfl rfl rfl ⟨rfl, rfl, rfl, rfl, rfl⟩ rfl rfl rfl rfl rfl (by kernel_rfl) Tryz.func3 (by kernel_rfl)
    (of_decide_eq_true (by kernel_rfl)) (by unfold Func.isWrapper; first | (rw [if_pos (by decide +kernel)]; kernel_rfl) | (rw [if_neg (by decide +kernel)]; exact ⟨rfl, rfl⟩))
    (fun os started H enc _ F => by rw [OpenClaim.pre_eq_preRow]; exact lifted os started H enc F)

theorem plain (f : FuncId) (fn : Func) (hf : Tryz.pinned.checked.prog.funcNamed "chimework/chimelaw1.RuleTells" = some f) (hfn : Tryz.pinned.checked.prog.funcs[f]? = some fn) :
    true = Tryz.pinned.checked.prog.looks [] ∧ ∀ (j : Nat) t, fn.params[j]? = some t → Tryz.pinned.checked.prog.wantsStandIn t = false := by
  obtain rfl : f = 3 := Option.some.inj ((show Tryz.prog.funcNamed "chimework/chimelaw1.RuleTells" = some 3 by kernel_rfl).symm.trans hf) |>.symm
  obtain rfl : fn = Tryz.f3 := (Option.some.inj (Tryz.func3.symm.trans hfn)).symm
  refine ⟨by kernel_rfl, fun j t ht => ?_⟩
  rw [Tryz.params3] at ht
  have hm : t ∈ [25, 9] := by simpa using Array.mem_of_getElem? ht
  have hall : ([25, 9].all fun u => !Tryz.prog.wantsStandIn u) = true := by kernel_rfl
  exact (show Tryz.prog.wantsStandIn t = false by simpa using List.all_eq_true.1 hall t hm)

theorem card : Rows.RuleTellsUptoCardSaid :=
  Claim7.holds_tied_plain_at .later [] _ _ _ _ said (fun _ h => by cases h) (by kernel_rfl) (fun _ h => by cases h) ruleTellsUpto_row_tie rfl ⟨rfl, rfl⟩ (by kernel_rfl) rfl plain (by kernel_rfl)
end Go.Proofs.YtoafdacgekmomabGreatDoor.ruleTells
namespace Go.Proofs.YtoafdacgekmomabGreatDoor
theorem ruleTellsUpto_holds : Rows.RuleTellsUptoCardSaid := ruleTells.card
#print axioms ruleTellsUpto_holds
end Go.Proofs.YtoafdacgekmomabGreatDoor
