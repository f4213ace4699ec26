/-
  What is proved here: what the cards of package clock's laws ask of the program besides their walks: what the listed tables give a walk, and how a world that holds them is laid.
-/
import Derived.Test.YtdiijpjfkgnjkaaDoorLay
import Derived.Test.YtdiijpjfkgnjkaaDoorClkRound
import Derived.Lib.LaidU8
import Derived.ChangeMaps5
namespace Go.Proofs.YtdiijpjfkgnjkaaDoor
open Go.ChangeShapes Go.WideShapes Go.ChangeAt Go.RowKit Cal

theorem gPow : Tryd.prog.globalNamed "internal/strconv.uint64pow10" = some 3 := by kernel_rfl
theorem gPowType : (Tryd.prog.globals[3]?).map (·.type) = some 107 := by kernel_rfl
theorem cellsPow : Tryd.prog.cellsOf 107 = 20 := by kernel_rfl
theorem cellsU64 : Tryd.prog.cellsOf 100 = 1 := by kernel_rfl
theorem gUni : Tryd.prog.globalNamed "chimework/clock.units" = some 0 := by kernel_rfl
theorem gUniType : (Tryd.prog.globals[0]?).map (·.type) = some 62 := by kernel_rfl
theorem cellsUnit : Tryd.prog.cellsOf 61 = 3 := by kernel_rfl
theorem cellsU8 : Tryd.prog.cellsOf 5 = 1 := by kernel_rfl

theorem pow_of {W : World} (h : Reads Tryd.prog W "internal/strconv.uint64pow10" Rows.laid_internal_strconv_uint64pow10) : Pow W :=
  tabIs_of_reads gPow gPowType Tryd.underlying107 Tryd.underlying100 cellsU64 cellsPow h
theorem at_three {cs : List Value} {i j : Nat} {v : Value} (hj : j < 3) (h : ((cs.drop (i * 3)).take 3)[j]? = some v) : cs[i * 3 + j]? = some v := by
  rw [List.getElem?_take, if_pos hj, List.getElem?_drop] at h; exact h
theorem uni_of {W : World} (h : Reads Tryd.prog W "chimework/clock.units" Rows.laid_chimework_clock_units) : Uni W := by
  obtain ⟨g', t', cs, fuel, p, hg', ht', hvar, hd⟩ := h
  obtain rfl := Option.some.inj (gUni.symm.trans hg')
  obtain rfl := Option.some.inj (gUniType.symm.trans ht')
  have key : ∀ (i : Nat) (_ : i < 3) (a b c : Int), ([DataW.agg [.lit (.int .u8 100), .lit (.int .i64 1440), .lit (.int .i64 999999999)], .agg [.lit (.int .u8 104), .lit (.int .i64 60), .lit (.int .i64 23)], .agg [.lit (.int .u8 109), .lit (.int .i64 1), .lit (.int .i64 59)]] : List (DataW Unit))[i]? = some (.agg [.lit (.int .u8 a), .lit (.int .i64 b), .lit (.int .i64 c)]) →
      W.cell? ⟨0, i * 3 + 0, none⟩ = some (.int .u8 a) ∧ W.cell? ⟨0, i * 3 + 1, none⟩ = some (.int .i64 b) ∧ W.cell? ⟨0, i * 3 + 2, none⟩ = some (.int .i64 c) := by
    intro i hi a b c hx
    obtain ⟨fuel', d, q, hdi, he⟩ := Lib.array_elem Tryd.underlying62 hd i hi
    obtain rfl := Option.some.inj (hx.symm.trans hdi)
    rw [cellsUnit] at he
    have f0 := field_int Tryd.underlying61 he 0 _ rfl Tryd.underlying5 cellsU8 rfl
    have f1 := field_int Tryd.underlying61 he 1 _ rfl Tryd.underlying3 cellsInt rfl
    have f2 := field_int Tryd.underlying61 he 2 _ rfl Tryd.underlying3 cellsInt rfl
    refine ⟨?_, ?_, ?_⟩
    · rw [World.var?_cell gUni hvar, ← Array.getElem?_toList]; exact at_three (by decide) f0
    · rw [World.var?_cell gUni hvar, ← Array.getElem?_toList]; exact at_three (by decide) f1
    · rw [World.var?_cell gUni hvar, ← Array.getElem?_toList]; exact at_three (by decide) f2
  exact ⟨key 0 (by decide) _ _ _ rfl, key 1 (by decide) _ _ _ rfl, key 2 (by decide) _ _ _ rfl⟩

end Go.Proofs.YtdiijpjfkgnjkaaDoor
