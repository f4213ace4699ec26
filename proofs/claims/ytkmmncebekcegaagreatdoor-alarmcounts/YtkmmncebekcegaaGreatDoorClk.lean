/-
  What is proved here: what clock.Last, IsTime, Split and Add answer, for every input (contracts over the translation).
-/
import Derived.Test.YtkmmncebekcegaaGreatDoorBA
namespace Go.Proofs.YtkmmncebekcegaaGreatDoor
open Go.RowKit Cal

theorem clast_any (w : World) :
    Calls Tryz.prog 54 #[] w fun e w' => e = .returned (.int .i64 157785119) ∧ w' = w := by
  go_enter Tryz.func54, Tryz.ntmps54
  go_wp2_with (go_at_call 85; refine (last_any _).mono ?_; rintro e w' ⟨rfl, rfl⟩)
  go_ret
  exact ⟨rfl, rfl⟩
/-- Is a number a time? -/
def ist (t : Int) : Bool := decide (1 ≤ t ∧ t ≤ 157785119)
theorem ist_yes {t : Int} (h1 : 1 ≤ t) (h2 : t ≤ 157785119) : ist t = true := decide_eq_true ⟨h1, h2⟩
theorem ist_no {t : Int} (h : ¬ (1 ≤ t ∧ t ≤ 157785119)) : ist t = false := decide_eq_false h
theorem isTime_any (t : Int) (w : World) :
    Calls Tryz.prog 30 #[.int .i64 t] w fun e w' => e = .returned (.bool (ist t)) ∧ w' = w := by
  by_cases h : 1 ≤ t
  all_goals
    go_enter Tryz.func30, Tryz.ntmps30
    go_wp2_with (go_at_call 54; refine (clast_any _).mono ?_; rintro e w' ⟨rfl, rfl⟩)
    go_ret
    exact ⟨ret_bool (by unfold ist; rw [Bool.eq_iff_iff]; simp; omega), rfl⟩
theorem split_yes (t : Int) (w : World) (h1 : 1 ≤ t) (h2 : t ≤ 157785119) :
    Calls Tryz.prog 100 #[.int .i64 t] w fun e w' => e = .returned (.tuple #[.int .i64 (t / 1440 + 1), .int .i64 (t % 1440), .nilIface]) ∧ w' = w := by
  have hi := ist_yes h1 h2
  go_enter Tryz.func100, Tryz.ntmps100
  go_wp2_with (go_at_call 30; refine (isTime_any _ _).mono ?_; rintro e w' ⟨rfl, rfl⟩)
  go_ret3
  exact ⟨rfl, rfl⟩
theorem split_no (t : Int) (w : World) (h : ¬ (1 ≤ t ∧ t ≤ 157785119)) :
    Calls Tryz.prog 100 #[.int .i64 t] w fun e w' => e = .returned (.tuple #[.int .i64 0, .int .i64 0, errRange]) ∧ w' = w := by
  have hi := ist_no h
  clear h
  go_enter Tryz.func100, Tryz.ntmps100
  go_wp2_with (go_at_call 30; refine (isTime_any _ _).mono ?_; rintro e w' ⟨rfl, rfl⟩)
  go_ret3
  exact ⟨rfl, rfl⟩
theorem add_yes (t n : Int) (w : World) (h1 : 1 ≤ t) (h2 : t ≤ 157785119) (g1 : 1 ≤ t + n) (g2 : t + n ≤ 157785119) :
    Calls Tryz.prog 89 #[.int .i64 t, .int .i64 n] w fun e w' => e = .returned (.tuple #[.int .i64 (t + n), .nilIface]) ∧ w' = w := by
  have hi := ist_yes h1 h2
  have b1 : ¬ n < 1 - t := by omega
  have b2 : ¬ 157785119 - t < n := by omega
  go_enter Tryz.func89, Tryz.ntmps89
  go_wp2_with (first
    | (go_at_call 30; refine (isTime_any _ _).mono ?_; rintro e w' ⟨rfl, rfl⟩)
    | (go_at_call 54; refine (clast_any _).mono ?_; rintro e w' ⟨rfl, rfl⟩))
  go_ret2
  exact ⟨rfl, rfl⟩
theorem add_no (t n : Int) (w : World) (h : ¬ (1 ≤ t ∧ t ≤ 157785119 ∧ 1 ≤ t + n ∧ t + n ≤ 157785119)) :
    Calls Tryz.prog 89 #[.int .i64 t, .int .i64 n] w fun e w' => e = .returned (.tuple #[.int .i64 0, errRange]) ∧ w' = w := by
  by_cases ht : 1 ≤ t ∧ t ≤ 157785119
  · obtain ⟨h1, h2⟩ := ht
    have hi := ist_yes h1 h2
    by_cases b1 : n < 1 - t
    · clear h
      go_enter Tryz.func89, Tryz.ntmps89
      go_wp2_with (first
        | (go_at_call 30; refine (isTime_any _ _).mono ?_; rintro e w' ⟨rfl, rfl⟩)
        | (go_at_call 54; refine (clast_any _).mono ?_; rintro e w' ⟨rfl, rfl⟩))
      go_ret2
      exact ⟨rfl, rfl⟩
    · have b2 : 157785119 - t < n := by omega
      clear h
      go_enter Tryz.func89, Tryz.ntmps89
      go_wp2_with (first
        | (go_at_call 30; refine (isTime_any _ _).mono ?_; rintro e w' ⟨rfl, rfl⟩)
        | (go_at_call 54; refine (clast_any _).mono ?_; rintro e w' ⟨rfl, rfl⟩))
      go_ret2
      exact ⟨rfl, rfl⟩
  · have hi := ist_no ht
    clear h ht
    go_enter Tryz.func89, Tryz.ntmps89
    go_wp2_with (first
      | (go_at_call 30; refine (isTime_any _ _).mono ?_; rintro e w' ⟨rfl, rfl⟩)
      | (go_at_call 54; refine (clast_any _).mono ?_; rintro e w' ⟨rfl, rfl⟩))
    go_ret2
    exact ⟨rfl, rfl⟩
end Go.Proofs.YtkmmncebekcegaaGreatDoor
