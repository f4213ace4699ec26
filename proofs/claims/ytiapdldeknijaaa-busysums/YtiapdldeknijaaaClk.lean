/-
  What is proved here: what clock.Last, IsTime, Split and Add answer, for every input (contracts over the translation).
-/
import Derived.Test.YtiapdldeknijaaaDayLow
namespace Go.Proofs.Ytiapdldeknijaaa
open Go.RowKit Cal

theorem clast_any (w : World) :
    Calls Try.prog 34 #[] w fun e w' => e = .returned (.int .i64 157785119) ∧ w' = w := by
  go_enter Try.func34, Try.ntmps34
  go_wp2_with (go_at_call 45; refine (last_any _).mono ?_; rintro e w' ⟨rfl, rfl⟩)
  go_ret
  exact ⟨rfl, rfl⟩
/-- Is a number a time? -/
def ist (t : Int) : Bool := decide (1 ≤ t ∧ t ≤ 157785119)
theorem ist_yes {t : Int} (h1 : 1 ≤ t) (h2 : t ≤ 157785119) : ist t = true := decide_eq_true ⟨h1, h2⟩
theorem ist_no {t : Int} (h : ¬ (1 ≤ t ∧ t ≤ 157785119)) : ist t = false := decide_eq_false h
theorem isTime_any (t : Int) (w : World) :
    Calls Try.prog 30 #[.int .i64 t] w fun e w' => e = .returned (.bool (ist t)) ∧ w' = w := by
  by_cases h : 1 ≤ t
  all_goals
    go_enter Try.func30, Try.ntmps30
    go_wp2_with (go_at_call 34; refine (clast_any _).mono ?_; rintro e w' ⟨rfl, rfl⟩)
    go_ret
    exact ⟨ret_bool (by unfold ist; rw [Bool.eq_iff_iff]; simp; omega), rfl⟩
end Go.Proofs.Ytiapdldeknijaaa
