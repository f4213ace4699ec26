/-
  What is proved here: when two rings are the same, as the program asks it; what chimeref2's Has answers (contracts over the translation).
-/
import Derived.Test.YtppachfccihbnaaQuPut
import Derived.Laws.StructEq
namespace Go.Proofs.Ytppachfccihbnaa.Qu
open Go.RowKit

/-- Are two rings the same? -/
def eqQ (x y : Rq) : Bool := decide (oc x y = 0)
theorem eqQ_iff {x y : Rq} : eqQ x y = true ↔ x = y := by unfold eqQ; rw [decide_eq_true_iff]; exact oc_cm.eq x y
theorem ring_eql_run (x y : Rq) (w : World) : (binOp .eql 31 (agQ x) (agQ y)).run Try.prog w = .ok (.bool (eqQ x y)) w := by
  have u3 := Try.underlying3
  have a3 := Try.isAgg3
  have z3 := Try.sizeOf3
  have u9 := Try.underlying9
  have a9 := Try.isAgg9
  have z9 := Try.sizeOf9
  have hS : Try.prog.underlying 31 = some (.struct (Try.prog.fieldsOf 31)) := by kernel_rfl
  have hp : Try.prog.stoodInHeld 31 = false := by kernel_rfl
  rw [run_eql_struct, show (10000 : Nat) = 9999 + 1 from rfl, run_equalIn_struct w 9999 31 _ _ hS hp]
  simp only [Program.fieldsOf, Try.underlying31]
  obtain ⟨x1, x2, x3, x4, x5⟩ := x
  obtain ⟨y1, y2, y3, y4, y5⟩ := y
  have e : eqQ (x1, x2, x3, x4, x5) (y1, y2, y3, y4, y5) = (x1 == y1 && (x2.toList == y2.toList && (x3 == y3 && (x4 == y4 && x5 == y5)))) := by
    rw [Bool.eq_iff_iff, eqQ_iff]
    simp only [Prod.mk.injEq, Bool.and_eq_true, beq_iff_eq]
    exact ⟨fun ⟨h1, h2, h3, h4, h5⟩ => ⟨h1, by rw [h2], h3, h4, h5⟩, fun ⟨h1, h2, h3, h4, h5⟩ => ⟨h1, toList_inj h2, h3, h4, h5⟩⟩
  rw [e]
  go_simp
  by_cases h1 : x1 = y1 <;> by_cases h2 : x2.toList = y2.toList <;> by_cases h3 : x3 = y3 <;> by_cases h4 : x4 = y4 <;> by_cases h5 : x5 = y5 <;> simp [h1, h2, h3, h4, h5]
theorem ring_neq_run (x y : Rq) (w : World) : (binOp .neq 31 (agQ x) (agQ y)).run Try.prog w = .ok (.bool (!eqQ x y)) w := by
  have u3 := Try.underlying3
  have a3 := Try.isAgg3
  have z3 := Try.sizeOf3
  have u9 := Try.underlying9
  have a9 := Try.isAgg9
  have z9 := Try.sizeOf9
  have hS : Try.prog.underlying 31 = some (.struct (Try.prog.fieldsOf 31)) := by kernel_rfl
  have hp : Try.prog.stoodInHeld 31 = false := by kernel_rfl
  rw [run_neq_struct, show (10000 : Nat) = 9999 + 1 from rfl, run_equalIn_struct w 9999 31 _ _ hS hp]
  simp only [Program.fieldsOf, Try.underlying31]
  obtain ⟨x1, x2, x3, x4, x5⟩ := x
  obtain ⟨y1, y2, y3, y4, y5⟩ := y
  have e : eqQ (x1, x2, x3, x4, x5) (y1, y2, y3, y4, y5) = (x1 == y1 && (x2.toList == y2.toList && (x3 == y3 && (x4 == y4 && x5 == y5)))) := by
    rw [Bool.eq_iff_iff, eqQ_iff]
    simp only [Prod.mk.injEq, Bool.and_eq_true, beq_iff_eq]
    exact ⟨fun ⟨h1, h2, h3, h4, h5⟩ => ⟨h1, by rw [h2], h3, h4, h5⟩, fun ⟨h1, h2, h3, h4, h5⟩ => ⟨h1, toList_inj h2, h3, h4, h5⟩⟩
  rw [e]
  go_simp
  by_cases h1 : x1 = y1 <;> by_cases h2 : x2.toList = y2.toList <;> by_cases h3 : x3 = y3 <;> by_cases h4 : x4 = y4 <;> by_cases h5 : x5 = y5 <;> simp [h1, h2, h3, h4, h5]
end Go.Proofs.Ytppachfccihbnaa.Qu
