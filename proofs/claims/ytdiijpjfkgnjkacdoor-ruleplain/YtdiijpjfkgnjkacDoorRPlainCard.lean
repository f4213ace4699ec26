/-
  What is proved: chimelaw4.RulePlain returns true for every three numbers, and leaves all that was there as it was. Conditions: the tables and words that it reads and errors.errorType hold at the start what the text of the program and of the library lays (the card ties them to that text).
-/
import Derived.Test.YtdiijpjfkgnjkacDoorRlBase
import Derived.Test.YtdiijpjfkgnjkacDoorRPlain
import Derived.LaidHandle
namespace Go.Proofs.YtdiijpjfkgnjkacDoor.rulePlain
open Go.ChangeShapes Go.WideShapes Go.ChangeAt Go.RowKit Go.Joins Go.ChangeMaps Cal

theorem gEt : Tryd.prog.globalNamed "errors.errorType" = some 3 := by kernel_rfl
theorem rtName : (Tryd.prog.cutTypes.find? (·.1 == "internal/reflectlite.rtype")).map (·.2) = some 130 := by kernel_rfl
theorem oneRow : ((List.range 188).filter fun t => Tryd.prog.rowNamed t [101, 114, 114, 111, 114]) = [24] := by kernel_rfl
theorem typesSize : Tryd.prog.types.size = 188 := by kernel_rfl
theorem parted {W : World} (h : laidMetH Tryd.prog Rows.rulePlainRow.laid W) : laidMet Tryd.prog [("chimework/day.monthDays", Rows.laid_chimework_day_monthDays), ("math/bits.deBruijn32tab", Rows.laid_math_bits_deBruijn32tab), ("math/bits.deBruijn64tab", Rows.laid_math_bits_deBruijn64tab), ("internal/strconv.uint64pow10", Rows.laid_internal_strconv_uint64pow10), ("chimework/rule.partWords", Rows.laid_chimework_rule_partWords), ("chimework/rule.freqWords", Rows.laid_chimework_rule_freqWords), ("chimework/rule.weekdayWords", Rows.laid_chimework_rule_weekdayWords)] W ∧ handlesMet Tryd.prog [("errors.errorType", Rows.laid_errors_errorType)] W := h
theorem data {W : World} (h : laidMetH Tryd.prog Rows.rulePlainRow.laid W) : laidMet Tryd.prog [("chimework/day.monthDays", Rows.laid_chimework_day_monthDays), ("math/bits.deBruijn32tab", Rows.laid_math_bits_deBruijn32tab), ("math/bits.deBruijn64tab", Rows.laid_math_bits_deBruijn64tab), ("internal/strconv.uint64pow10", Rows.laid_internal_strconv_uint64pow10), ("chimework/rule.partWords", Rows.laid_chimework_rule_partWords), ("chimework/rule.freqWords", Rows.laid_chimework_rule_freqWords), ("chimework/rule.weekdayWords", Rows.laid_chimework_rule_weekdayWords)] W := (parted h).1
theorem handle {W : World} (h : laidMetH Tryd.prog Rows.rulePlainRow.laid W) : ErrTy W := by
  obtain ⟨name, u, ty, e1, e2, e3, e4, e5⟩ := (parted h).2 _ (List.mem_singleton.2 rfl)
  have en : name = [101, 114, 114, 111, 114] := (Option.some.inj e1).symm
  subst en
  obtain rfl := Option.some.inj (rtName.symm.trans e2)
  have hm : ty ∈ (List.range 188).filter fun t => Tryd.prog.rowNamed t [101, 114, 114, 111, 114] := List.mem_filter.2 ⟨List.mem_range.2 (by rw [← typesSize]; exact e3), e4⟩
  rw [oneRow] at hm
  obtain rfl := List.mem_singleton.1 hm
  have hh : typeHandle Tryd.prog 24 = .pointer (some ⟨9, 24, none⟩) := by kernel_rfl
  rw [hh] at e5
  unfold ErrTy
  simpa using World.var?_cell gEt e5 0
theorem reads_monthDays {W : World} (h : laidMetH Tryd.prog Rows.rulePlainRow.laid W) : Reads Tryd.prog W "chimework/day.monthDays" Rows.laid_chimework_day_monthDays := reads_of (data h) (by simp)
theorem reads_deBruijn32tab {W : World} (h : laidMetH Tryd.prog Rows.rulePlainRow.laid W) : Reads Tryd.prog W "math/bits.deBruijn32tab" Rows.laid_math_bits_deBruijn32tab := reads_of (data h) (by simp)
theorem reads_deBruijn64tab {W : World} (h : laidMetH Tryd.prog Rows.rulePlainRow.laid W) : Reads Tryd.prog W "math/bits.deBruijn64tab" Rows.laid_math_bits_deBruijn64tab := reads_of (data h) (by simp)
theorem reads_uint64pow10 {W : World} (h : laidMetH Tryd.prog Rows.rulePlainRow.laid W) : Reads Tryd.prog W "internal/strconv.uint64pow10" Rows.laid_internal_strconv_uint64pow10 := reads_of (data h) (by simp)
theorem reads_partWords {W : World} (h : laidMetH Tryd.prog Rows.rulePlainRow.laid W) : Reads Tryd.prog W "chimework/rule.partWords" Rows.laid_chimework_rule_partWords := reads_of (data h) (by simp)
theorem reads_freqWords {W : World} (h : laidMetH Tryd.prog Rows.rulePlainRow.laid W) : Reads Tryd.prog W "chimework/rule.freqWords" Rows.laid_chimework_rule_freqWords := reads_of (data h) (by simp)
theorem reads_weekdayWords {W : World} (h : laidMetH Tryd.prog Rows.rulePlainRow.laid W) : Reads Tryd.prog W "chimework/rule.weekdayWords" Rows.laid_chimework_rule_weekdayWords := reads_of (data h) (by simp)

set_option maxRecDepth 100000 in
/-- What the walk gives, for every argument and every world that meets the condition. -/
theorem contract (H : Type) (enc : TypeId × Value → H) (W : World) (base : Nat) (args : Array Value) (ds gs : List (DataW H)) (before : List MemPlace)
    (hval : ∀ (j : Nat) t v, Tryd.f3.params[j]? = some t → args[j]? = some v → Value.okWide Tryd.prog W .any base t v)
    (hW : DataW.Whole enc Tryd.prog Tryd.f3.params.toList Rows.rulePlainSpec.vars false W args.toList ds gs before) (hL : laidMetH Tryd.prog Rows.rulePlainRow.laid W) :
    Calls Tryd.prog 3 args W fun e W' => ∃ v, e = .returned v ∧ Rows.rulePlainSpec.post enc Tryd.prog Tryd.f3 false true false false W args v W' := by
  have hW' := hW
  obtain ⟨p, q, hA0, hV, rfl, hfz, hnd⟩ := hW
  have hA : DataW.TrodAll enc Tryd.prog W 0 (fun _ => true) true Tryd.f3.params.toList args.toList ds p := hA0
  rw [Tryd.params3] at hA hval
  obtain ⟨v0, vs0, d0, ds0, p0, q0, hargs, rfl, rfl, h0, r0⟩ := trodAll_cons hA
  obtain ⟨v1, vs1, d1, ds1, p1, q1, rfl, rfl, rfl, h1, r1⟩ := trodAll_cons r0
  obtain ⟨v2, vs2, d2, ds2, p2, q2, rfl, rfl, rfl, h2, r2⟩ := trodAll_cons r1
  obtain ⟨rfl, rfl, rfl⟩ := trodAll_nil r2
  obtain rfl : args = #[v0, v1, v2] := Array.ext' hargs
  obtain ⟨rfl, rfl⟩ := trodVars_none hV
  obtain ⟨a0, rfl, rfl, rfl, z0⟩ := open_int Tryd.underlying3 (hval 0 3 v0 rfl rfl) h0
  obtain ⟨a1, rfl, rfl, rfl, z1⟩ := open_int Tryd.underlying3 (hval 1 3 v1 rfl rfl) h1
  obtain ⟨a2, rfl, rfl, rfl, z2⟩ := open_int Tryd.underlying3 (hval 2 3 v2 rfl rfl) h2
  clear hA0
  simp only [List.append_nil] at hW'
  refine (rplain a0 a1 a2 W (tab_of_reads (reads_monthDays hL)) (pow_of (reads_uint64pow10 hL)) (frw_of (reads_freqWords hL)) (paw_of (reads_partWords hL)) (wdw_of (reads_weekdayWords hL)) (handle hL)).mono fun e W' ⟨he, hb⟩ => ?_
  subst he
  refine ⟨_, rfl, _, _, _, [], [], [], hW', ?_, ?_, ?_, hb.frame _, fun h => by cases h⟩
  · exact trodAll_mk1 (shut_bool Tryd.underlying4 true)
  · exact (trodAll_cons_mk (shut_int Tryd.underlying3 z0) (trodAll_cons_mk (shut_int Tryd.underlying3 z1) (trodAll_cons_mk (shut_int Tryd.underlying3 z2) trodAll_mk0)))
  · rfl

/-! A world for the witness: the settled one, the listed variables holding what their initialisers lay. -/
def layTy : Obj → Obj
  | .cells _ t frozen => .cells #[.iface 130 (.agg #[.pointer (some ⟨9, 24, none⟩)])] t frozen
  | o => o
theorem laid_met (os : Os) : laidMetH Tryd.prog Rows.rulePlainRow.laid (({ World.holding Tryd.prog os ⟨#[], #[], []⟩ with heap := (((((((((World.holding Tryd.prog os ⟨#[], #[], []⟩).heap.modify 4 (layInts Rows.laid_chimework_day_monthDays)).modify 7 (layInts Rows.laid_math_bits_deBruijn32tab)).modify 8 (layInts Rows.laid_math_bits_deBruijn64tab)).modify 5 (layInts Rows.laid_internal_strconv_uint64pow10)).modify 1 (layInts Rows.laid_chimework_rule_partWords)).modify 0 (layInts Rows.laid_chimework_rule_freqWords)).modify 2 (layInts Rows.laid_chimework_rule_weekdayWords)).modify 3 layTy) } : World).forCall (fun _ _ => 0) ⟨#[], #[.int .i64 0, .int .i64 0, .int .i64 0], []⟩).memory :=
  laidMetH_of_parts (laidMet_of_run' 8 (by kernel_rfl) (by kernel_rfl)) (by kernel_rfl)
theorem reads (os : Os) {H : Type} (enc : TypeId × Value → H) : ∃ places, DataW.whole enc Tryd.prog (({ World.holding Tryd.prog os ⟨#[], #[], []⟩ with heap := (((((((((World.holding Tryd.prog os ⟨#[], #[], []⟩).heap.modify 4 (layInts Rows.laid_chimework_day_monthDays)).modify 7 (layInts Rows.laid_math_bits_deBruijn32tab)).modify 8 (layInts Rows.laid_math_bits_deBruijn64tab)).modify 5 (layInts Rows.laid_internal_strconv_uint64pow10)).modify 1 (layInts Rows.laid_chimework_rule_partWords)).modify 0 (layInts Rows.laid_chimework_rule_freqWords)).modify 2 (layInts Rows.laid_chimework_rule_weekdayWords)).modify 3 layTy) } : World).forCall (fun _ _ => 0) ⟨#[], #[.int .i64 0, .int .i64 0, .int .i64 0], []⟩).memory Tryd.f3.params.toList Rows.rulePlainSpec.vars false #[Value.int .i64 0, Value.int .i64 0, Value.int .i64 0].toList 8 = some ([.lit (.int .i64 0), .lit (.int .i64 0), .lit (.int .i64 0)], [], places) :=
  ⟨[], by kernel_rfl⟩

set_option maxRecDepth 100000 in
theorem lifted (os : Os) (started : os.Started) (H : Type) (enc : TypeId × Value → H) (F : Stop.Interp) :
    ReturnsInHanded {} Tryd.checked os 3 .any ((OpenSpec.ofChange Rows.rulePlainSpec).preRow enc Tryd.prog Tryd.f3 Rows.rulePlainRow.domain false Rows.rulePlainRow.laid) (((OpenSpec.ofChange Rows.rulePlainSpec).at F).post enc Tryd.prog Tryd.f3 false true false false) := by
  obtain ⟨places, hx⟩ := reads os enc
  refine returnsInHanded_of_row (C := Tryd.checked) (s := OpenSpec.ofChange Rows.rulePlainSpec) own started (by kernel_rfl) Tryd.func3
    (witness_row_at (enc := enc) (C := Tryd.checked) false ({ World.holding Tryd.prog os ⟨#[], #[], []⟩ with heap := (((((((((World.holding Tryd.prog os ⟨#[], #[], []⟩).heap.modify 4 (layInts Rows.laid_chimework_day_monthDays)).modify 7 (layInts Rows.laid_math_bits_deBruijn32tab)).modify 8 (layInts Rows.laid_math_bits_deBruijn64tab)).modify 5 (layInts Rows.laid_internal_strconv_uint64pow10)).modify 1 (layInts Rows.laid_chimework_rule_partWords)).modify 0 (layInts Rows.laid_chimework_rule_freqWords)).modify 2 (layInts Rows.laid_chimework_rule_weekdayWords)).modify 3 layTy) } : World) #[.int .i64 0, .int .i64 0, .int .i64 0] rfl (by kernel_rfl) (by kernel_rfl) (by kernel_rfl)
      (OpenSpec.preRow_of_cond 8 hx (by kernel_rfl) (fun k hk => by cases hk) (by kernel_rfl) (laid_met os))) ?_
  intro W base args ds gs before hval hW _ _ _ hL _ _
  exact contract H enc W base args ds gs before hval hW hL

theorem said : Rows.RulePlainSaid :=
  OpenClaim.holds_of_cond 3 Tryd.f3 rfl rfl rfl rfl rfl rfl rfl ⟨rfl, rfl, rfl, rfl, rfl⟩ rfl rfl rfl rfl rfl (by kernel_rfl) Tryd.func3 (by kernel_rfl)
    (of_decide_eq_true (by kernel_rfl)) (by unfold Func.isWrapper; first | (rw [if_pos (by decide +kernel)]; kernel_rfl) | (rw [if_neg (by decide +kernel)]; exact ⟨rfl, rfl⟩))
    (fun os started H enc _ F => by rw [OpenClaim.pre_eq_preRow]; exact lifted os started H enc F)

theorem plain (f : FuncId) (fn : Func) (hf : Tryd.pinned.checked.prog.funcNamed "chimework/chimelaw4.RulePlain" = some f) (hfn : Tryd.pinned.checked.prog.funcs[f]? = some fn) :
    true = Tryd.pinned.checked.prog.looks [] ∧ ∀ (j : Nat) t, fn.params[j]? = some t → Tryd.pinned.checked.prog.wantsStandIn t = false := by
  obtain rfl : f = 3 := Option.some.inj ((show Tryd.prog.funcNamed "chimework/chimelaw4.RulePlain" = some 3 by kernel_rfl).symm.trans hf) |>.symm
  obtain rfl : fn = Tryd.f3 := (Option.some.inj (Tryd.func3.symm.trans hfn)).symm
  refine ⟨by kernel_rfl, fun j t ht => ?_⟩
  rw [Tryd.params3] at ht
  have hm : t ∈ [3, 3, 3] := by simpa using Array.mem_of_getElem? ht
  have hall : ([3, 3, 3].all fun u => !Tryd.prog.wantsStandIn u) = true := by kernel_rfl
  exact (show Tryd.prog.wantsStandIn t = false by simpa using List.all_eq_true.1 hall t hm)

theorem card : Rows.RulePlainCardSaid :=
  Claim7.holds_tied_plain_at .later [] _ _ _ _ said (fun _ h => by cases h) (by kernel_rfl) (fun _ h => by cases h) rulePlain_row_tie rfl ⟨rfl, rfl⟩ (by kernel_rfl) rfl plain (by kernel_rfl)
end Go.Proofs.YtdiijpjfkgnjkacDoor.rulePlain
namespace Go.Proofs.YtdiijpjfkgnjkacDoor
theorem rulePlain_holds : Rows.RulePlainCardSaid := rulePlain.card
#print axioms rulePlain_holds
end Go.Proofs.YtdiijpjfkgnjkacDoor
