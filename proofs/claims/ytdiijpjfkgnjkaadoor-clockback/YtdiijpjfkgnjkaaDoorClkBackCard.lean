/-
  What is proved: chimelaw1.ClockBack returns true for every two numbers and two texts, and leaves all that was there as it was. Conditions: the tables that it reads hold at the start what the text of the program and of the library lays (the card ties them to that text).
-/
import Derived.Test.YtdiijpjfkgnjkaaDoorClkBase
import Derived.Test.YtdiijpjfkgnjkaaDoorClkBack
namespace Go.Proofs.YtdiijpjfkgnjkaaDoor.clockBack
open Go.ChangeShapes Go.WideShapes Go.ChangeAt Go.RowKit Go.Joins Go.ChangeMaps Cal

theorem data {W : World} (h : laidMetH Tryd.prog Rows.clockBackRow.laid W) : laidMet Tryd.prog [("chimework/day.monthDays", Rows.laid_chimework_day_monthDays), ("math/bits.deBruijn32tab", Rows.laid_math_bits_deBruijn32tab), ("math/bits.deBruijn64tab", Rows.laid_math_bits_deBruijn64tab), ("internal/strconv.uint64pow10", Rows.laid_internal_strconv_uint64pow10), ("chimework/clock.units", Rows.laid_chimework_clock_units)] W := h
theorem reads_monthDays {W : World} (h : laidMetH Tryd.prog Rows.clockBackRow.laid W) : Reads Tryd.prog W "chimework/day.monthDays" Rows.laid_chimework_day_monthDays := reads_of (data h) (by simp)
theorem reads_deBruijn32tab {W : World} (h : laidMetH Tryd.prog Rows.clockBackRow.laid W) : Reads Tryd.prog W "math/bits.deBruijn32tab" Rows.laid_math_bits_deBruijn32tab := reads_of (data h) (by simp)
theorem reads_deBruijn64tab {W : World} (h : laidMetH Tryd.prog Rows.clockBackRow.laid W) : Reads Tryd.prog W "math/bits.deBruijn64tab" Rows.laid_math_bits_deBruijn64tab := reads_of (data h) (by simp)
theorem reads_uint64pow10 {W : World} (h : laidMetH Tryd.prog Rows.clockBackRow.laid W) : Reads Tryd.prog W "internal/strconv.uint64pow10" Rows.laid_internal_strconv_uint64pow10 := reads_of (data h) (by simp)
theorem reads_units {W : World} (h : laidMetH Tryd.prog Rows.clockBackRow.laid W) : Reads Tryd.prog W "chimework/clock.units" Rows.laid_chimework_clock_units := reads_of (data h) (by simp)

set_option maxRecDepth 100000 in
/-- What the walk gives, for every argument and every world that meets the condition. -/
theorem contract (H : Type) (enc : TypeId × Value → H) (W : World) (base : Nat) (args : Array Value) (ds gs : List (DataW H)) (before : List MemPlace)
    (hval : ∀ (j : Nat) t v, Tryd.f7.params[j]? = some t → args[j]? = some v → Value.okWide Tryd.prog W .any base t v)
    (hW : DataW.Whole enc Tryd.prog Tryd.f7.params.toList Rows.clockBackSpec.vars false W args.toList ds gs before) (hL : laidMetH Tryd.prog Rows.clockBackRow.laid W) :
    Calls Tryd.prog 7 args W fun e W' => ∃ v, e = .returned v ∧ Rows.clockBackSpec.post enc Tryd.prog Tryd.f7 false true false false W args v W' := by
  have hW' := hW
  obtain ⟨p, q, hA0, hV, rfl, hfz, hnd⟩ := hW
  have hA : DataW.TrodAll enc Tryd.prog W 0 (fun _ => true) true Tryd.f7.params.toList args.toList ds p := hA0
  rw [Tryd.params7] at hA hval
  obtain ⟨v0, vs0, d0, ds0, p0, q0, hargs, rfl, rfl, h0, r0⟩ := trodAll_cons hA
  obtain ⟨v1, vs1, d1, ds1, p1, q1, rfl, rfl, rfl, h1, r1⟩ := trodAll_cons r0
  obtain ⟨v2, vs2, d2, ds2, p2, q2, rfl, rfl, rfl, h2, r2⟩ := trodAll_cons r1
  obtain ⟨v3, vs3, d3, ds3, p3, q3, rfl, rfl, rfl, h3, r3⟩ := trodAll_cons r2
  obtain ⟨rfl, rfl, rfl⟩ := trodAll_nil r3
  obtain rfl : args = #[v0, v1, v2, v3] := Array.ext' hargs
  obtain ⟨rfl, rfl⟩ := trodVars_none hV
  obtain ⟨a0, rfl, rfl, rfl, z0⟩ := open_int Tryd.underlying3 (hval 0 3 v0 rfl rfl) h0
  obtain ⟨a1, rfl, rfl, rfl, z1⟩ := open_string Tryd.underlying9 (hval 1 9 v1 rfl rfl) h1
  obtain ⟨a2, rfl, rfl, rfl, z2⟩ := open_int Tryd.underlying3 (hval 2 3 v2 rfl rfl) h2
  obtain ⟨a3, rfl, rfl, rfl, z3⟩ := open_string Tryd.underlying9 (hval 3 9 v3 rfl rfl) h3
  clear hA0
  simp only [List.append_nil] at hW'
  refine (cback a0 a2 a1 a3 W (KeepC.start (tab_of_reads (reads_monthDays hL)) (pow_of (reads_uint64pow10 hL)) (uni_of (reads_units hL))) z3).mono fun e W' ⟨he, hb⟩ => ?_
  subst he
  refine ⟨_, rfl, _, _, _, [], [], [], hW', ?_, ?_, ?_, hb.frame _, fun h => by cases h⟩
  · exact trodAll_mk1 (shut_bool Tryd.underlying4 true)
  · exact (trodAll_cons_mk (shut_int Tryd.underlying3 z0) (trodAll_cons_mk (shut_string Tryd.underlying9 z1) (trodAll_cons_mk (shut_int Tryd.underlying3 z2) (trodAll_cons_mk (shut_string Tryd.underlying9 z3) trodAll_mk0))))
  · rfl

/-! A world for the witness: the settled one, the listed variables holding what their initialisers lay. -/
theorem laid_met (os : Os) : laidMet Tryd.prog Rows.clockBackRow.laid (({ World.holding Tryd.prog os ⟨#[], #[], []⟩ with heap := ((((((World.holding Tryd.prog os ⟨#[], #[], []⟩).heap.modify 1 (layInts Rows.laid_chimework_day_monthDays)).modify 4 (layInts Rows.laid_math_bits_deBruijn32tab)).modify 5 (layInts Rows.laid_math_bits_deBruijn64tab)).modify 3 (layInts Rows.laid_internal_strconv_uint64pow10)).modify 0 (layRows Rows.laid_chimework_clock_units)) } : World).forCall (fun _ _ => 0) ⟨#[], #[.int .i64 0, .string ⟨#[]⟩, .int .i64 0, .string ⟨#[]⟩], []⟩).memory :=
  laidMet_of_run' 8 (by kernel_rfl) (by kernel_rfl)
theorem reads (os : Os) {H : Type} (enc : TypeId × Value → H) : ∃ places, DataW.whole enc Tryd.prog (({ World.holding Tryd.prog os ⟨#[], #[], []⟩ with heap := ((((((World.holding Tryd.prog os ⟨#[], #[], []⟩).heap.modify 1 (layInts Rows.laid_chimework_day_monthDays)).modify 4 (layInts Rows.laid_math_bits_deBruijn32tab)).modify 5 (layInts Rows.laid_math_bits_deBruijn64tab)).modify 3 (layInts Rows.laid_internal_strconv_uint64pow10)).modify 0 (layRows Rows.laid_chimework_clock_units)) } : World).forCall (fun _ _ => 0) ⟨#[], #[.int .i64 0, .string ⟨#[]⟩, .int .i64 0, .string ⟨#[]⟩], []⟩).memory Tryd.f7.params.toList Rows.clockBackSpec.vars false #[Value.int .i64 0, Value.string ⟨#[]⟩, Value.int .i64 0, Value.string ⟨#[]⟩].toList 8 = some ([.lit (.int .i64 0), .lit (.string []), .lit (.int .i64 0), .lit (.string [])], [], places) :=
  ⟨[], by kernel_rfl⟩

set_option maxRecDepth 100000 in
theorem lifted (os : Os) (started : os.Started) (H : Type) (enc : TypeId × Value → H) (F : Stop.Interp) :
    ReturnsInHanded {} Tryd.checked os 7 .any ((OpenSpec.ofChange Rows.clockBackSpec).preRow enc Tryd.prog Tryd.f7 Rows.clockBackRow.domain false Rows.clockBackRow.laid) (((OpenSpec.ofChange Rows.clockBackSpec).at F).post enc Tryd.prog Tryd.f7 false true false false) := by
  obtain ⟨places, hx⟩ := reads os enc
  refine returnsInHanded_of_row (C := Tryd.checked) (s := OpenSpec.ofChange Rows.clockBackSpec) own started (by kernel_rfl) Tryd.func7
    (witness_row_at (enc := enc) (C := Tryd.checked) false ({ World.holding Tryd.prog os ⟨#[], #[], []⟩ with heap := ((((((World.holding Tryd.prog os ⟨#[], #[], []⟩).heap.modify 1 (layInts Rows.laid_chimework_day_monthDays)).modify 4 (layInts Rows.laid_math_bits_deBruijn32tab)).modify 5 (layInts Rows.laid_math_bits_deBruijn64tab)).modify 3 (layInts Rows.laid_internal_strconv_uint64pow10)).modify 0 (layRows Rows.laid_chimework_clock_units)) } : World) #[.int .i64 0, .string ⟨#[]⟩, .int .i64 0, .string ⟨#[]⟩] rfl (by kernel_rfl) (by kernel_rfl) (by kernel_rfl)
      (OpenSpec.preRow_of_cond 8 hx (by kernel_rfl) (fun k hk => by cases hk) (by kernel_rfl) (laid_met os))) ?_
  intro W base args ds gs before hval hW _ _ _ hL _ _
  exact contract H enc W base args ds gs before hval hW hL

theorem said : Rows.ClockBackSaid :=
  OpenClaim.holds_of_cond 7 Tryd.f7 rfl rfl rfl rfl rfl rfl rfl ⟨rfl, rfl, rfl, rfl, rfl⟩ rfl rfl rfl rfl rfl (by kernel_rfl) Tryd.func7 (by kernel_rfl)
    (of_decide_eq_true (by kernel_rfl)) (by unfold Func.isWrapper; first | (rw [if_pos (by decide +kernel)]; kernel_rfl) | (rw [if_neg (by decide +kernel)]; exact ⟨rfl, rfl⟩))
    (fun os started H enc _ F => by rw [OpenClaim.pre_eq_preRow]; exact lifted os started H enc F)

theorem plain (f : FuncId) (fn : Func) (hf : Tryd.pinned.checked.prog.funcNamed "chimework/chimelaw1.ClockBack" = some f) (hfn : Tryd.pinned.checked.prog.funcs[f]? = some fn) :
    true = Tryd.pinned.checked.prog.looks [] ∧ ∀ (j : Nat) t, fn.params[j]? = some t → Tryd.pinned.checked.prog.wantsStandIn t = false := by
  obtain rfl : f = 7 := Option.some.inj ((show Tryd.prog.funcNamed "chimework/chimelaw1.ClockBack" = some 7 by kernel_rfl).symm.trans hf) |>.symm
  obtain rfl : fn = Tryd.f7 := (Option.some.inj (Tryd.func7.symm.trans hfn)).symm
  refine ⟨by kernel_rfl, fun j t ht => ?_⟩
  rw [Tryd.params7] at ht
  have hm : t ∈ [3, 9, 3, 9] := by simpa using Array.mem_of_getElem? ht
  have hall : ([3, 9, 3, 9].all fun u => !Tryd.prog.wantsStandIn u) = true := by kernel_rfl
  exact (show Tryd.prog.wantsStandIn t = false by simpa using List.all_eq_true.1 hall t hm)

theorem card : Rows.ClockBackCardSaid :=
  Claim7.holds_tied_plain_at .later [] _ _ _ _ said (fun _ h => by cases h) (by kernel_rfl) (fun _ h => by cases h) clockBack_row_tie rfl ⟨rfl, rfl⟩ (by kernel_rfl) rfl plain (by kernel_rfl)
end Go.Proofs.YtdiijpjfkgnjkaaDoor.clockBack
namespace Go.Proofs.YtdiijpjfkgnjkaaDoor
theorem clockBack_holds : Rows.ClockBackCardSaid := clockBack.card
#print axioms clockBack_holds
end Go.Proofs.YtdiijpjfkgnjkaaDoor
