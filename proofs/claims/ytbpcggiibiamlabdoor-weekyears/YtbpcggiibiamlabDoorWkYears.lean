/-
  What is proved here: the walk of chimelaw4.WeekYears: it returns true for every number, and turns nothing that was there; the table of months is asked as a premise.
-/
import Derived.Test.YtbpcggiibiamlabDoorWkDay
namespace Go.Proofs.YtbpcggiibiamlabDoor
open Go.RowKit Cal

theorem weeks_fact (w : World) (hT : Tab w) :
    Calls Tryd.prog 10 #[.int .i64 2026] w fun e w' => e = .returned (.tuple #[.int .i64 53, .nilIface]) ∧ Below w.heap.size w w' := by
  have := weeks_yes 2026 w hT (by omega) (by omega)
  rwa [show wks 2026 = 53 by decide +kernel] at this
set_option maxRecDepth 100000 in
set_option maxHeartbeats 4000000 in
theorem wyears (y : Int) (w : World) (hT : Tab w) :
    Calls Tryd.prog 5 #[.int .i64 y] w fun e w' => e = .returned (.bool true) ∧ Below w.heap.size w w' := by
  go_enter Tryd.func5, Tryd.ntmps5
  go_wp2_with fail
  refine (weeks_fact _ hT).mono ?_
  rintro e w1 ⟨rfl, hb1⟩
  have T1 := hT.below hb1
  go_wp2_with fail
  by_cases hy : 1900 ≤ y ∧ y ≤ 2199
  case neg =>
    have H := Lib.hid hy
    refine (weeks_no y _ T1 H.out).mono ?_
    rintro e w2 ⟨rfl, hb2⟩
    by_cases hl : y < 1900
    · go_wp2
      go_ret
      exact ⟨rfl, hb1.trans (hb2.mono hb1.size)⟩
    · have hg : 2199 < y := by omega
      go_wp2
      go_ret
      exact ⟨ret_bool (by simp), hb1.trans (hb2.mono hb1.size)⟩
  obtain ⟨h1, h2⟩ := hy
  have W := Lib.hid (wks_two y)
  have w1' : 1 ≤ wks y := by have := W.out; omega
  have w2' : wks y ≤ 53 := by have := W.out; omega
  refine (weeks_yes y _ T1 h1 h2).mono ?_
  rintro e w2 ⟨rfl, hb2⟩
  have T2 := T1.below hb2
  go_wp2_with fail
  refine (first_yes y 1 _ T2 h1 h2 (by omega) w1').mono ?_
  rintro e w3 ⟨rfl, hb3⟩
  have T3 := T2.below hb3
  go_wp2_with fail
  have B3 := hb1.trans ((hb2.trans (hb3.mono hb2.size)).mono hb1.size)
  clear hb1 hb2 hb3
  by_cases hz : y = 2199
  · refine (first_no (y + 1) 1 _ T3 (by omega)).mono ?_
    rintro e w4 ⟨rfl, hb4⟩
    rcases W.out with e2 | e2
    all_goals
      have E := Lib.hid e2
      go_wp2
      go_ret
      exact ⟨rfl, B3.trans (hb4.mono B3.size)⟩
  · have N := Lib.hid (fst_next y)
    have f1 := fst_bd y
    have f2 := fst_bd (y + 1)
    have b1 := bef_bd y h1 (by omega)
    have b2 := bef_bd (y + 1) (by omega) (by omega)
    have v1 : 1 ≤ wks (y + 1) := by have := wks_two (y + 1); omega
    refine (first_yes (y + 1) 1 _ T3 (by omega) (by omega) (by omega) v1).mono ?_
    rintro e w4 ⟨rfl, hb4⟩
    rcases W.out with e2 | e2
    all_goals
      have E := Lib.hid e2
      go_wp2
      go_ret
      exact ⟨ret_bool (by rw [beq_iff_eq]; have := N.out; have := E.out; omega), B3.trans (hb4.mono B3.size)⟩
end Go.Proofs.YtbpcggiibiamlabDoor
