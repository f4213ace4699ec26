/-
  What is proved here: what the cards of package rule's laws ask of the program besides their walks: what the listed tables and words give a walk.
-/
import Derived.Test.YtpplfcfhjpfckaaGreatDoorQE
import Derived.Test.YtpplfcfhjpfckaaGreatDoorQV
import Derived.Lib.LaidU8
import Derived.ChangeMaps5
namespace Go.Proofs.YtpplfcfhjpfckaaGreatDoor
open Go.ChangeShapes Go.WideShapes Go.ChangeAt Go.RowKit Cal Txt

theorem gPow : Tryz.prog.globalNamed "internal/strconv.uint64pow10" = some 8 := by kernel_rfl
theorem gPowType : (Tryz.prog.globals[8]?).map (·.type) = some 202 := by kernel_rfl
theorem cellsPow : Tryz.prog.cellsOf 202 = 20 := by kernel_rfl
theorem cellsU64 : Tryz.prog.cellsOf 187 = 1 := by kernel_rfl
theorem cellsStr : Tryz.prog.cellsOf 9 = 1 := by kernel_rfl
theorem pow_of {W : World} (h : Reads Tryz.prog W "internal/strconv.uint64pow10" Rows.laid_internal_strconv_uint64pow10) : Pow W :=
  tabIs_of_reads gPow gPowType Tryz.underlying202 Tryz.underlying187 cellsU64 cellsPow h
/-- Words that are listed. -/
theorem words_of {W : World} {name : String} {g : Nat} {t : TypeId} {n : Nat} {ds : List (DataW Unit)} (hg : Tryz.prog.globalNamed name = some g) (hty : (Tryz.prog.globals[g]?).map (·.type) = some t) (ht : Tryz.prog.underlying t = some (.array n 9))
    (h : Reads Tryz.prog W name (.agg ds)) (i : Nat) (hi : i < n) (s : List UInt8) (hs : ds[i]? = some (.lit (.string s))) : W.cell? ⟨g, i, none⟩ = some (.string (tb s)) := by
  obtain ⟨g', t', cs, fuel, p, hg', ht', hvar, hd⟩ := h
  obtain rfl := Option.some.inj (hg.symm.trans hg')
  obtain rfl := Option.some.inj (hty.symm.trans ht')
  obtain ⟨fuel', d, q, hdi, he⟩ := Lib.array_elem ht hd i hi
  obtain rfl := Option.some.inj (hs.symm.trans hdi)
  rw [cellsStr, Nat.mul_one] at he
  obtain ⟨b, hc, hx, _⟩ := DataW.trod_string Tryz.underlying9 he
  have e1 : s = b.data.toList := by
    have := congrArg Prod.fst hx
    simpa using this
  have e2 : cs[i]? = some (.string b) := by
    have := congrArg (·[0]?) hc
    simp only [List.getElem?_take, List.getElem?_drop] at this
    simpa using this
  rw [World.var?_cell hg hvar, e2, e1]
  show some (Value.string b) = some (Value.string (tb b.data.toList))
  congr 2
theorem gFr : Tryz.prog.globalNamed "chimework/rule.freqWords" = some 4 := by kernel_rfl
theorem gFrT : (Tryz.prog.globals[4]?).map (·.type) = some 155 := by kernel_rfl
theorem gPa : Tryz.prog.globalNamed "chimework/rule.partWords" = some 5 := by kernel_rfl
theorem gPaT : (Tryz.prog.globals[5]?).map (·.type) = some 156 := by kernel_rfl
theorem gWd : Tryz.prog.globalNamed "chimework/rule.weekdayWords" = some 7 := by kernel_rfl
theorem gWdT : (Tryz.prog.globals[7]?).map (·.type) = some 156 := by kernel_rfl
theorem frw_of {W : World} (h : Reads Tryz.prog W "chimework/rule.freqWords" Rows.laid_chimework_rule_freqWords) : FrW W := fun k hk => by
  refine words_of gFr gFrT Tryz.underlying155 h k hk _ ?_
  rcases (by omega : k = 0 ∨ k = 1 ∨ k = 2 ∨ k = 3) with rfl | rfl | rfl | rfl <;> rfl
theorem paw_of {W : World} (h : Reads Tryz.prog W "chimework/rule.partWords" Rows.laid_chimework_rule_partWords) : PaW W := fun k hk => by
  refine words_of gPa gPaT Tryz.underlying156 h k hk _ ?_
  rcases seven hk with rfl | rfl | rfl | rfl | rfl | rfl | rfl <;> rfl
theorem wdw_of {W : World} (h : Reads Tryz.prog W "chimework/rule.weekdayWords" Rows.laid_chimework_rule_weekdayWords) : WdW W := fun k hk => by
  refine words_of gWd gWdT Tryz.underlying156 h k hk _ ?_
  rcases seven hk with rfl | rfl | rfl | rfl | rfl | rfl | rfl <;> rfl
end Go.Proofs.YtpplfcfhjpfckaaGreatDoor
