/-
  What is proved: chimelaw1.ClockTells returns true for every date, three numbers and two texts, and leaves all that was there as it was. Conditions: the tables that it reads and errors.errorType hold at the start what the text of the program and of the library lays (the card ties them to that text).
-/
import Derived.Test.YtdiijpjfkgnjkaaDoorClkBase
import Derived.Test.YtdiijpjfkgnjkaaDoorCTells
import Derived.LaidHandle
namespace Go.Proofs.YtdiijpjfkgnjkaaDoor.clockTells
open Go.ChangeShapes Go.WideShapes Go.ChangeAt Go.RowKit Go.Joins Go.ChangeMaps Cal

theorem gEt : Tryd.prog.globalNamed "errors.errorType" = some 2 := by kernel_rfl
theorem rtName : (Tryd.prog.cutTypes.find? (·.1 == "internal/reflectlite.rtype")).map (·.2) = some 86 := by kernel_rfl
theorem oneRow : ((List.range 143).filter fun t => Tryd.prog.rowNamed t [101, 114, 114, 111, 114]) = [26] := by kernel_rfl
theorem typesSize : Tryd.prog.types.size = 143 := by kernel_rfl
theorem parted {W : World} (h : laidMetH Tryd.prog Rows.clockTellsRow.laid W) : laidMet Tryd.prog [("chimework/day.monthDays", Rows.laid_chimework_day_monthDays), ("math/bits.deBruijn32tab", Rows.laid_math_bits_deBruijn32tab), ("math/bits.deBruijn64tab", Rows.laid_math_bits_deBruijn64tab), ("internal/strconv.uint64pow10", Rows.laid_internal_strconv_uint64pow10), ("chimework/clock.units", Rows.laid_chimework_clock_units)] W ∧ handlesMet Tryd.prog [("errors.errorType", Rows.laid_errors_errorType)] W := h
theorem data {W : World} (h : laidMetH Tryd.prog Rows.clockTellsRow.laid W) : laidMet Tryd.prog [("chimework/day.monthDays", Rows.laid_chimework_day_monthDays), ("math/bits.deBruijn32tab", Rows.laid_math_bits_deBruijn32tab), ("math/bits.deBruijn64tab", Rows.laid_math_bits_deBruijn64tab), ("internal/strconv.uint64pow10", Rows.laid_internal_strconv_uint64pow10), ("chimework/clock.units", Rows.laid_chimework_clock_units)] W := (parted h).1
theorem handle {W : World} (h : laidMetH Tryd.prog Rows.clockTellsRow.laid W) : ErrTy W := by
  obtain ⟨name, u, ty, e1, e2, e3, e4, e5⟩ := (parted h).2 _ (List.mem_singleton.2 rfl)
  have en : name = [101, 114, 114, 111, 114] := (Option.some.inj e1).symm
  subst en
  obtain rfl := Option.some.inj (rtName.symm.trans e2)
  have hm : ty ∈ (List.range 143).filter fun t => Tryd.prog.rowNamed t [101, 114, 114, 111, 114] := List.mem_filter.2 ⟨List.mem_range.2 (by rw [← typesSize]; exact e3), e4⟩
  rw [oneRow] at hm
  obtain rfl := List.mem_singleton.1 hm
  have hh : typeHandle Tryd.prog 26 = .pointer (some ⟨6, 26, none⟩) := by kernel_rfl
  rw [hh] at e5
  unfold ErrTy
  simpa using World.var?_cell gEt e5 0
theorem reads_monthDays {W : World} (h : laidMetH Tryd.prog Rows.clockTellsRow.laid W) : Reads Tryd.prog W "chimework/day.monthDays" Rows.laid_chimework_day_monthDays := reads_of (data h) (by simp)
theorem reads_deBruijn32tab {W : World} (h : laidMetH Tryd.prog Rows.clockTellsRow.laid W) : Reads Tryd.prog W "math/bits.deBruijn32tab" Rows.laid_math_bits_deBruijn32tab := reads_of (data h) (by simp)
theorem reads_deBruijn64tab {W : World} (h : laidMetH Tryd.prog Rows.clockTellsRow.laid W) : Reads Tryd.prog W "math/bits.deBruijn64tab" Rows.laid_math_bits_deBruijn64tab := reads_of (data h) (by simp)
theorem reads_uint64pow10 {W : World} (h : laidMetH Tryd.prog Rows.clockTellsRow.laid W) : Reads Tryd.prog W "internal/strconv.uint64pow10" Rows.laid_internal_strconv_uint64pow10 := reads_of (data h) (by simp)
theorem reads_units {W : World} (h : laidMetH Tryd.prog Rows.clockTellsRow.laid W) : Reads Tryd.prog W "chimework/clock.units" Rows.laid_chimework_clock_units := reads_of (data h) (by simp)

set_option maxRecDepth 100000 in
/-- What the walk gives, for every argument and every world that meets the condition. -/
theorem contract (H : Type) (enc : TypeId × Value → H) (W : World) (base : Nat) (args : Array Value) (ds gs : List (DataW H)) (before : List MemPlace)
    (hval : ∀ (j : Nat) t v, Tryd.f6.params[j]? = some t → args[j]? = some v → Value.okWide Tryd.prog W .any base t v)
    (hW : DataW.Whole enc Tryd.prog Tryd.f6.params.toList Rows.clockTellsSpec.vars false W args.toList ds gs before) (hL : laidMetH Tryd.prog Rows.clockTellsRow.laid W) :
    Calls Tryd.prog 6 args W fun e W' => ∃ v, e = .returned v ∧ Rows.clockTellsSpec.post enc Tryd.prog Tryd.f6 false true false false W args v W' := by
  have hW' := hW
  obtain ⟨p, q, hA0, hV, rfl, hfz, hnd⟩ := hW
  have hA : DataW.TrodAll enc Tryd.prog W 0 (fun _ => true) true Tryd.f6.params.toList args.toList ds p := hA0
  rw [Tryd.params6] at hA hval
  obtain ⟨v0, vs0, d0, ds0, p0, q0, hargs, rfl, rfl, h0, r0⟩ := trodAll_cons hA
  obtain ⟨v1, vs1, d1, ds1, p1, q1, rfl, rfl, rfl, h1, r1⟩ := trodAll_cons r0
  obtain ⟨v2, vs2, d2, ds2, p2, q2, rfl, rfl, rfl, h2, r2⟩ := trodAll_cons r1
  obtain ⟨v3, vs3, d3, ds3, p3, q3, rfl, rfl, rfl, h3, r3⟩ := trodAll_cons r2
  obtain ⟨v4, vs4, d4, ds4, p4, q4, rfl, rfl, rfl, h4, r4⟩ := trodAll_cons r3
  obtain ⟨v5, vs5, d5, ds5, p5, q5, rfl, rfl, rfl, h5, r5⟩ := trodAll_cons r4
  obtain ⟨rfl, rfl, rfl⟩ := trodAll_nil r5
  obtain rfl : args = #[v0, v1, v2, v3, v4, v5] := Array.ext' hargs
  obtain ⟨rfl, rfl⟩ := trodVars_none hV
  obtain ⟨c00, c01, c02, y00, y01, y02, k0, rfl, rfl, rfl, hy00, hy01, hy02⟩ := open_agg3 Tryd.underlying23 (by kernel_rfl) cellsDate (hval 0 23 v0 rfl rfl) h0
  obtain ⟨a0y, e00, rfl, z0y⟩ := DataW.trod_int Tryd.underlying3 hy00
  obtain ⟨a0m, e01, rfl, z0m⟩ := DataW.trod_int Tryd.underlying3 hy01
  obtain ⟨a0d, e02, rfl, z0d⟩ := DataW.trod_int Tryd.underlying3 hy02
  simp at e00 e01 e02
  subst e00 e01 e02
  have dateReads0 : ∀ (W' : World) (sp : Nat → Bool), DataW.Trod enc Tryd.prog W' 0 sp true 23 (.agg #[.int .i64 a0y, .int .i64 a0m, .int .i64 a0d]) (.agg [.lit (.int .i64 a0y), .lit (.int .i64 a0m), .lit (.int .i64 a0d)]) [] := fun W' sp =>
    shut_agg3 (y0 := (.lit (.int .i64 a0y), [])) (y1 := (.lit (.int .i64 a0m), [])) (y2 := (.lit (.int .i64 a0d), [])) Tryd.underlying23 (by kernel_rfl) cellsDate ⟨1, by simp [DataW.trod, Tryd.underlying3, z0y]⟩ ⟨1, by simp [DataW.trod, Tryd.underlying3, z0m]⟩ ⟨1, by simp [DataW.trod, Tryd.underlying3, z0d]⟩
  obtain ⟨a1, rfl, rfl, rfl, z1⟩ := open_int Tryd.underlying3 (hval 1 3 v1 rfl rfl) h1
  obtain ⟨a2, rfl, rfl, rfl, z2⟩ := open_int Tryd.underlying3 (hval 2 3 v2 rfl rfl) h2
  obtain ⟨a3, rfl, rfl, rfl, z3⟩ := open_string Tryd.underlying9 (hval 3 9 v3 rfl rfl) h3
  obtain ⟨a4, rfl, rfl, rfl, z4⟩ := open_int Tryd.underlying3 (hval 4 3 v4 rfl rfl) h4
  obtain ⟨a5, rfl, rfl, rfl, z5⟩ := open_string Tryd.underlying9 (hval 5 9 v5 rfl rfl) h5
  clear hA0
  simp only [List.append_nil] at hW'
  refine (ctells a0y a0m a0d a1 a2 a4 a3 a5 W ⟨KeepC.start (tab_of_reads (reads_monthDays hL)) (pow_of (reads_uint64pow10 hL)) (uni_of (reads_units hL)), handle hL⟩ z5).mono fun e W' ⟨he, hb⟩ => ?_
  subst he
  refine ⟨_, rfl, _, _, _, [], [], [], hW', ?_, ?_, ?_, hb.frame _, fun h => by cases h⟩
  · exact trodAll_mk1 (shut_bool Tryd.underlying4 true)
  · exact (trodAll_cons_mk (dateReads0 _ _) (trodAll_cons_mk (shut_int Tryd.underlying3 z1) (trodAll_cons_mk (shut_int Tryd.underlying3 z2) (trodAll_cons_mk (shut_string Tryd.underlying9 z3) (trodAll_cons_mk (shut_int Tryd.underlying3 z4) (trodAll_cons_mk (shut_string Tryd.underlying9 z5) trodAll_mk0))))))
  · rfl

/-! A world for the witness: the settled one, the listed variables holding what their initialisers lay. -/
def layTy : Obj → Obj
  | .cells _ t frozen => .cells #[.iface 86 (.agg #[.pointer (some ⟨6, 26, none⟩)])] t frozen
  | o => o
theorem laid_met (os : Os) : laidMetH Tryd.prog Rows.clockTellsRow.laid (({ World.holding Tryd.prog os ⟨#[], #[], []⟩ with heap := (((((((World.holding Tryd.prog os ⟨#[], #[], []⟩).heap.modify 1 (layInts Rows.laid_chimework_day_monthDays)).modify 4 (layInts Rows.laid_math_bits_deBruijn32tab)).modify 5 (layInts Rows.laid_math_bits_deBruijn64tab)).modify 3 (layInts Rows.laid_internal_strconv_uint64pow10)).modify 0 (layRows Rows.laid_chimework_clock_units)).modify 2 layTy) } : World).forCall (fun _ _ => 0) ⟨#[], #[.agg #[.int .i64 0, .int .i64 0, .int .i64 0], .int .i64 0, .int .i64 0, .string ⟨#[]⟩, .int .i64 0, .string ⟨#[]⟩], []⟩).memory :=
  laidMetH_of_parts (laidMet_of_run' 8 (by kernel_rfl) (by kernel_rfl)) (by kernel_rfl)
theorem reads (os : Os) {H : Type} (enc : TypeId × Value → H) : ∃ places, DataW.whole enc Tryd.prog (({ World.holding Tryd.prog os ⟨#[], #[], []⟩ with heap := (((((((World.holding Tryd.prog os ⟨#[], #[], []⟩).heap.modify 1 (layInts Rows.laid_chimework_day_monthDays)).modify 4 (layInts Rows.laid_math_bits_deBruijn32tab)).modify 5 (layInts Rows.laid_math_bits_deBruijn64tab)).modify 3 (layInts Rows.laid_internal_strconv_uint64pow10)).modify 0 (layRows Rows.laid_chimework_clock_units)).modify 2 layTy) } : World).forCall (fun _ _ => 0) ⟨#[], #[.agg #[.int .i64 0, .int .i64 0, .int .i64 0], .int .i64 0, .int .i64 0, .string ⟨#[]⟩, .int .i64 0, .string ⟨#[]⟩], []⟩).memory Tryd.f6.params.toList Rows.clockTellsSpec.vars false #[Value.agg #[.int .i64 0, .int .i64 0, .int .i64 0], Value.int .i64 0, Value.int .i64 0, Value.string ⟨#[]⟩, Value.int .i64 0, Value.string ⟨#[]⟩].toList 8 = some ([.agg [.lit (.int .i64 0), .lit (.int .i64 0), .lit (.int .i64 0)], .lit (.int .i64 0), .lit (.int .i64 0), .lit (.string []), .lit (.int .i64 0), .lit (.string [])], [], places) :=
  ⟨[], by kernel_rfl⟩

set_option maxRecDepth 100000 in
theorem lifted (os : Os) (started : os.Started) (H : Type) (enc : TypeId × Value → H) (F : Stop.Interp) :
    ReturnsInHanded {} Tryd.checked os 6 .any ((OpenSpec.ofChange Rows.clockTellsSpec).preRow enc Tryd.prog Tryd.f6 Rows.clockTellsRow.domain false Rows.clockTellsRow.laid) (((OpenSpec.ofChange Rows.clockTellsSpec).at F).post enc Tryd.prog Tryd.f6 false true false false) := by
  obtain ⟨places, hx⟩ := reads os enc
  refine returnsInHanded_of_row (C := Tryd.checked) (s := OpenSpec.ofChange Rows.clockTellsSpec) own started (by kernel_rfl) Tryd.func6
    (witness_row_at (enc := enc) (C := Tryd.checked) false ({ World.holding Tryd.prog os ⟨#[], #[], []⟩ with heap := (((((((World.holding Tryd.prog os ⟨#[], #[], []⟩).heap.modify 1 (layInts Rows.laid_chimework_day_monthDays)).modify 4 (layInts Rows.laid_math_bits_deBruijn32tab)).modify 5 (layInts Rows.laid_math_bits_deBruijn64tab)).modify 3 (layInts Rows.laid_internal_strconv_uint64pow10)).modify 0 (layRows Rows.laid_chimework_clock_units)).modify 2 layTy) } : World) #[.agg #[.int .i64 0, .int .i64 0, .int .i64 0], .int .i64 0, .int .i64 0, .string ⟨#[]⟩, .int .i64 0, .string ⟨#[]⟩] rfl (by kernel_rfl) (by kernel_rfl) (by kernel_rfl)
      (OpenSpec.preRow_of_cond 8 hx (by kernel_rfl) (fun k hk => by cases hk) (by kernel_rfl) (laid_met os))) ?_
  intro W base args ds gs before hval hW _ _ _ hL _ _
  exact contract H enc W base args ds gs before hval hW hL

theorem said : Rows.ClockTellsSaid :=
  OpenClaim.holds_of_cond 6 Tryd.f6 rfl rfl rfl rfl rfl rfl rfl ⟨rfl, rfl, rfl, rfl, rfl⟩ rfl rfl rfl rfl rfl (by kernel_rfl) Tryd.func6 (by kernel_rfl)
    (of_decide_eq_true (by kernel_rfl)) (by unfold Func.isWrapper; first | (rw [if_pos (by decide +kernel)]; kernel_rfl) | (rw [if_neg (by decide +kernel)]; exact ⟨rfl, rfl⟩))
    (fun os started H enc _ F => by rw [OpenClaim.pre_eq_preRow]; exact lifted os started H enc F)

theorem plain (f : FuncId) (fn : Func) (hf : Tryd.pinned.checked.prog.funcNamed "chimework/chimelaw1.ClockTells" = some f) (hfn : Tryd.pinned.checked.prog.funcs[f]? = some fn) :
    true = Tryd.pinned.checked.prog.looks [] ∧ ∀ (j : Nat) t, fn.params[j]? = some t → Tryd.pinned.checked.prog.wantsStandIn t = false := by
  obtain rfl : f = 6 := Option.some.inj ((show Tryd.prog.funcNamed "chimework/chimelaw1.ClockTells" = some 6 by kernel_rfl).symm.trans hf) |>.symm
  obtain rfl : fn = Tryd.f6 := (Option.some.inj (Tryd.func6.symm.trans hfn)).symm
  refine ⟨by kernel_rfl, fun j t ht => ?_⟩
  rw [Tryd.params6] at ht
  have hm : t ∈ [23, 3, 3, 9, 3, 9] := by simpa using Array.mem_of_getElem? ht
  have hall : ([23, 3, 3, 9, 3, 9].all fun u => !Tryd.prog.wantsStandIn u) = true := by kernel_rfl
  exact (show Tryd.prog.wantsStandIn t = false by simpa using List.all_eq_true.1 hall t hm)

theorem card : Rows.ClockTellsCardSaid :=
  Claim7.holds_tied_plain_at .later [] _ _ _ _ said (fun _ h => by cases h) (by kernel_rfl) (fun _ h => by cases h) clockTells_row_tie rfl ⟨rfl, rfl⟩ (by kernel_rfl) rfl plain (by kernel_rfl)
end Go.Proofs.YtdiijpjfkgnjkaaDoor.clockTells
namespace Go.Proofs.YtdiijpjfkgnjkaaDoor
theorem clockTells_holds : Rows.ClockTellsCardSaid := clockTells.card
#print axioms clockTells_holds
end Go.Proofs.YtdiijpjfkgnjkaaDoor
