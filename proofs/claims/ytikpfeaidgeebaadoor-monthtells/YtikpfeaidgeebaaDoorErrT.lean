/-
  What is proved here: chimesame.Error finds nil, ErrRange, and any error's own number to be what they are (contracts over the translation).
-/
import Derived.Test.YtikpfeaidgeebaaDoorDayLow
import Derived.Test.YtikpfeaidgeebaaDoorTold
namespace Go.Proofs.YtikpfeaidgeebaaDoor
open Go.RowKit Cal

theorem errT_nil (w : World) : Calls Tryd.prog 9 #[.nilIface, .int .i64 0] w fun e w' => e = .returned (.bool true) ∧ Below w.heap.size w w' :=
  (error_nil 0 w).mono fun _ _ ⟨he, hw⟩ => ⟨he, by rw [hw]; exact Below.refl _ _⟩
theorem errT_one (w : World) (hg : ErrTy w) : Calls Tryd.prog 9 #[errRange, .int .i64 1] w fun e w' => e = .returned (.bool true) ∧ Below w.heap.size w w' :=
  (error_errno 1 1 w hg).mono fun _ _ ⟨he, hb⟩ => ⟨he, hb⟩
theorem errT_fault (f : Int) (w : World) (hg : ErrTy w) : Calls Tryd.prog 9 #[fault f, .int .i64 f] w fun e w' => e = .returned (.bool true) ∧ Below w.heap.size w w' := by
  by_cases h : f = 0
  · subst h; exact errT_nil w
  · unfold fault
    rw [if_neg h]
    exact (error_errno f f w hg).mono fun _ _ ⟨he, hb⟩ => ⟨by rw [he]; simp, hb⟩
end Go.Proofs.YtikpfeaidgeebaaDoor
