/-
  What is proved here: what the cards of package clock's laws ask of the program besides their walks: what the listed tables give a walk, and how a world that holds them is laid.
-/
import Derived.Test.YteeimjaijphjeaaDoorBase
import Derived.Test.YteeimjaijphjeaaDoorClkRound
import Derived.Lib.LaidU8
import Derived.ChangeMaps5
namespace Go.Proofs.YteeimjaijphjeaaDoor
open Go.ChangeShapes Go.WideShapes Go.ChangeAt Go.RowKit Cal

theorem gPow : Tryd.prog.globalNamed "internal/strconv.uint64pow10" = some 3 := by kernel_rfl
theorem gPowType : (Tryd.prog.globals[3]?).map (·.type) = some 107 := by kernel_rfl
theorem cellsPow : Tryd.prog.cellsOf 107 = 20 := by kernel_rfl
theorem cellsU64 : Tryd.prog.cellsOf 100 = 1 := by kernel_rfl
theorem gUni : Tryd.prog.globalNamed "chimework/clock.units" = some 0 := by kernel_rfl
theorem gUniType : (Tryd.prog.globals[0]?).map (·.type) = some 62 := by kernel_rfl
theorem cellsUnit : Tryd.prog.cellsOf 61 = 3 := by kernel_rfl
theorem cellsU8 : Tryd.prog.cellsOf 5 = 1 := by kernel_rfl

/-- A table that is listed wherever on the list. -/
theorem tabIs_of_reads {P : Program} {W : World} {name : String} {k : IntKind} {zs : List Int} {g : Nat} {t e : TypeId} {n : Nat}
    (hg : P.globalNamed name = some g) (hty : (P.globals[g]?).map (·.type) = some t) (ht : P.underlying t = some (.array n e)) (he : P.underlying e = some (.int k)) (hce : P.cellsOf e = 1) (hct : P.cellsOf t = n)
    (h : Lib.VarReads P W name (Lib.tabData k zs)) : Lib.TabIs P W name k zs := by
  obtain ⟨g', t', cs, fuel, p, hg', ht', hvar, hd⟩ := h
  obtain rfl := Option.some.inj (hg.symm.trans hg')
  obtain rfl := Option.some.inj (hty.symm.trans ht')
  unfold Lib.TabIs
  rw [hvar, ← Lib.cells_of_tab ht he hce hct hd]
/-- An integer among a struct's fields. -/
theorem field_int {H : Type} {enc : TypeId × Value → H} {P : Program} {w : World} {base : Nat} {sp : Nat → Bool} {held : Bool} {fuel : Nat} {t : TypeId} {fs : Array Field} {cs : List Value} {ds : List (DataW H)} {p : List MemPlace}
    (ht : P.underlying t = some (.struct fs)) (h : DataW.trod enc P w base sp held fuel t cs = some (.agg ds, p)) (i : Nat) (f : Field) (hf : fs[i]? = some f) {k : IntKind} {z : Int}
    (hu : P.underlying f.type = some (.int k)) (hc : P.cellsOf f.type = 1) (hd : ds[i]? = some (.lit (.int k z))) : cs[f.offset]? = some (.int k z) := by
  obtain ⟨xs, n, rfl, hx, hl, hxl, hall⟩ := DataW.trod_struct ht h
  have hxs : xs.map (·.1) = ds := by
    have := congrArg Prod.fst hx
    simpa using this.symm
  have h1 := hall i f hf
  have hi : i < xs.length := by
    rw [hxl]; exact (Array.getElem?_eq_some_iff.1 hf).1
  obtain ⟨b, hb⟩ : ∃ b, xs[i]? = some b := ⟨xs[i], List.getElem?_eq_getElem hi⟩
  rw [hb, hc] at h1
  obtain ⟨z', hcz, rfl, _⟩ := DataW.trod_int hu h1
  have h2 : cs[f.offset]? = some (.int k z') := by
    have := congrArg (·[0]?) hcz
    simpa [List.getElem?_take, List.getElem?_drop] using this
  have h3 : (xs.map (·.1))[i]? = some (DataW.lit (.int k z') : DataW H) := by simp [hb]
  rw [hxs, hd] at h3
  simp only [Option.some.injEq, DataW.lit.injEq, Lit.int.injEq, true_and] at h3
  rw [h2, h3]
theorem pow_of {W : World} (h : Lib.VarReads Tryd.prog W "internal/strconv.uint64pow10" Rows.laid_internal_strconv_uint64pow10) : Pow W :=
  tabIs_of_reads gPow gPowType Tryd.underlying107 Tryd.underlying100 cellsU64 cellsPow h
theorem tab_of_reads {W : World} (h : Lib.VarReads Tryd.prog W "chimework/day.monthDays" Rows.laid_chimework_day_monthDays) : Tab W :=
  tab_of (tabIs_of_reads gTab gTabType Tryd.underlying65 Tryd.underlying3 cellsInt cellsTab h)
theorem at_three {cs : List Value} {i j : Nat} {v : Value} (hj : j < 3) (h : ((cs.drop (i * 3)).take 3)[j]? = some v) : cs[i * 3 + j]? = some v := by
  rw [List.getElem?_take, if_pos hj, List.getElem?_drop] at h; exact h
theorem uni_of {W : World} (h : Lib.VarReads Tryd.prog W "chimework/clock.units" Rows.laid_chimework_clock_units) : Uni W := by
  obtain ⟨g', t', cs, fuel, p, hg', ht', hvar, hd⟩ := h
  obtain rfl := Option.some.inj (gUni.symm.trans hg')
  obtain rfl := Option.some.inj (gUniType.symm.trans ht')
  have key : ∀ (i : Nat) (_ : i < 3) (a b c : Int), ([DataW.agg [.lit (.int .u8 100), .lit (.int .i64 1440), .lit (.int .i64 999999999)], .agg [.lit (.int .u8 104), .lit (.int .i64 60), .lit (.int .i64 23)], .agg [.lit (.int .u8 109), .lit (.int .i64 1), .lit (.int .i64 59)]] : List (DataW Unit))[i]? = some (.agg [.lit (.int .u8 a), .lit (.int .i64 b), .lit (.int .i64 c)]) →
      W.cell? ⟨0, i * 3 + 0, none⟩ = some (.int .u8 a) ∧ W.cell? ⟨0, i * 3 + 1, none⟩ = some (.int .i64 b) ∧ W.cell? ⟨0, i * 3 + 2, none⟩ = some (.int .i64 c) := by
    intro i hi a b c hx
    obtain ⟨fuel', d, q, hdi, he⟩ := Lib.array_elem Tryd.underlying62 hd i hi
    obtain rfl := Option.some.inj (hx.symm.trans hdi)
    rw [cellsUnit] at he
    have f0 := field_int Tryd.underlying61 he 0 _ rfl Tryd.underlying5 cellsU8 rfl
    have f1 := field_int Tryd.underlying61 he 1 _ rfl Tryd.underlying3 cellsInt rfl
    have f2 := field_int Tryd.underlying61 he 2 _ rfl Tryd.underlying3 cellsInt rfl
    refine ⟨?_, ?_, ?_⟩
    · rw [World.var?_cell gUni hvar, ← Array.getElem?_toList]; exact at_three (by decide) f0
    · rw [World.var?_cell gUni hvar, ← Array.getElem?_toList]; exact at_three (by decide) f1
    · rw [World.var?_cell gUni hvar, ← Array.getElem?_toList]; exact at_three (by decide) f2
  exact ⟨key 0 (by decide) _ _ _ rfl, key 1 (by decide) _ _ _ rfl, key 2 (by decide) _ _ _ rfl⟩

/-! A world that holds what the listed data say. -/
def lits : DataW Unit → List (DataW Unit)
  | .agg ds => ds
  | _ => []
def litCell : DataW Unit → Value
  | .lit (.int k z) => .int k z
  | _ => .bool false
def layInts (d : DataW Unit) : Obj → Obj
  | .cells _ t frozen => .cells ((lits d).map litCell).toArray t frozen
  | o => o
def layRows (d : DataW Unit) : Obj → Obj
  | .cells _ t frozen => .cells ((lits d).flatMap fun r => (lits r).map litCell).toArray t frozen
  | o => o
end Go.Proofs.YteeimjaijphjeaaDoor
