/-
  What is proved here: what the functions of the document's answer for weeks (package chimeref1: Monday, Week, Weeks, Ends, NthOf) tell, as contracts over the translation.
-/
import Derived.Test.YtbpcggiibiamlabDoorRef
import Derived.Test.YtbpcggiibiamlabDoorWkWhich
namespace Go.Proofs.YtbpcggiibiamlabDoor
open Go.RowKit Cal

theorem refMonday_any (n : Int) (w : World) (h1 : 1 ≤ n) (h2 : n ≤ 109573) :
    Calls Tryd.prog 11 #[.int .i64 n] w fun e w' => e = .returned (.int .i64 (mon n)) ∧ w' = w := by
  go_enter Tryd.func11, Tryd.ntmps11
  go_wp2
  go_ret
  exact ⟨rfl, rfl⟩
theorem refOf_four (y : Int) (w : World) (h1 : 1900 ≤ y) (h2 : y ≤ 2199) :
    Calls Tryd.prog 12 #[.agg #[.int .i64 y, .int .i64 1, .int .i64 4]] w fun e w' => e = .returned (.int .i64 (bef y + 4)) ∧ Below w.heap.size w w' := by
  have := refOf_yes y 1 4 w (ok_four h1 h2)
  rwa [num_four] at this
theorem refOf_late (y : Int) (w : World) (h1 : 1900 ≤ y) (h2 : y ≤ 2199) :
    Calls Tryd.prog 12 #[.agg #[.int .i64 y, .int .i64 12, .int .i64 28]] w fun e w' => e = .returned (.int .i64 (bef (y + 1) - 3)) ∧ Below w.heap.size w w' := by
  have := refOf_yes y 12 28 w (ok_late h1 h2)
  rwa [num_late] at this
theorem refFirst (y : Int) (w : World) (h1 : 1900 ≤ y) (h2 : y ≤ 2199) :
    Calls Tryd.prog 11 #[.int .i64 (bef y + 4)] w fun e w' => e = .returned (.int .i64 (fst y)) ∧ w' = w := by
  have b := num_bd (ok_four h1 h2)
  rw [num_four] at b
  exact refMonday_any _ w b.1 b.2
theorem refWeek_none (n : Int) (w : World) (h : ¬ (1 ≤ n ∧ n ≤ 109573)) :
    Calls Tryd.prog 6 #[.int .i64 n] w fun e w' => e = .returned (.tuple #[.int .i64 0, .int .i64 0, .bool false]) ∧ Below w.heap.size w w' := by
  have hc : n < 1 ∨ (1 ≤ n ∧ 109573 < n) := by omega
  clear h
  rcases hc with c | ⟨c, c'⟩
  all_goals
    go_enter Tryd.func6, Tryd.ntmps6
    go_wp2
    go_ret3
    exact ⟨rfl, Below.refl _ _⟩
theorem refWeek_late (n : Int) (w : World) (h1 : 1 ≤ n) (h2 : n ≤ 109573) (h3 : ¬ mon n + 3 ≤ 109573) :
    Calls Tryd.prog 6 #[.int .i64 n] w fun e w' => e = .returned (.tuple #[.int .i64 0, .int .i64 0, .bool false]) ∧ Below w.heap.size w w' := by
  have m := mon_bd n
  go_enter Tryd.func6, Tryd.ntmps6
  go_wp2_with fail
  refine (refMonday_any n _ h1 h2).mono ?_
  rintro e w' ⟨rfl, hw⟩
  subst hw
  go_wp2_with fail
  refine (refDate_no (mon n + 3) _ (by omega)).mono ?_
  rintro e w1 ⟨rfl, hb⟩
  go_wp2
  go_ret3
  exact ⟨rfl, hb.trans ((Below.refl _ _).alloc hb.size _)⟩
theorem refWeek_no (n : Int) (w : World) (h : ¬ (1 ≤ n ∧ n ≤ 109573 ∧ mon n + 3 ≤ 109573)) :
    Calls Tryd.prog 6 #[.int .i64 n] w fun e w' => e = .returned (.tuple #[.int .i64 0, .int .i64 0, .bool false]) ∧ Below w.heap.size w w' := by
  by_cases h1 : 1 ≤ n ∧ n ≤ 109573
  · exact refWeek_late n w h1.1 h1.2 (fun k => h ⟨h1.1, h1.2, k⟩)
  · exact refWeek_none n w h1
set_option maxHeartbeats 1000000 in
theorem refWeek_yes (n : Int) (w : World) (h1 : 1 ≤ n) (h2 : n ≤ 109573) (h3 : mon n + 3 ≤ 109573) :
    Calls Tryd.prog 6 #[.int .i64 n] w fun e w' => e = .returned (.tuple #[.int .i64 (wky n), .int .i64 (wkn n), .bool true]) ∧ Below w.heap.size w w' := by
  have m := mon_bd n
  have m1 : 1 ≤ mon n := by unfold mon; omega
  obtain ⟨y1, y2, y3, y4⟩ := yr_bd (n := mon n + 3) (by omega) h3
  have bb := bef_bd (yr (mon n + 3)) y1 (by omega)
  have fb := fst_bd (yr (mon n + 3))
  obtain ⟨_, _, a3, _, a5⟩ := week_in h1 h3
  have fn : fst (yr (mon n + 3)) ≤ n := by have e : wky n = yr (mon n + 3) := rfl; rw [e] at a5; omega
  clear a5
  go_enter Tryd.func6, Tryd.ntmps6
  go_wp2_with fail
  refine (refMonday_any n _ h1 h2).mono ?_
  rintro e w' ⟨rfl, hw⟩
  subst hw
  go_wp2_with fail
  refine (refDate_yes (mon n + 3) _ (by omega) h3).mono ?_
  rintro e w1 ⟨rfl, hb⟩
  have D1 := Dat.new w1 (yr (mon n + 3)) (mo (mon n + 3)) (da (mon n + 3)) 36
  go_wp2_with fail
  refine (refOf_four (yr (mon n + 3)) _ y1 y2).mono ?_
  rintro e w2 ⟨rfl, hb2⟩
  obtain ⟨D_0, D_1, D_2⟩ := D1.on hb2
  clear D1
  go_wp2_with fail
  refine (refFirst (yr (mon n + 3)) _ y1 y2).mono ?_
  rintro e w3 ⟨rfl, hw⟩
  subst hw
  go_wp2
  go_ret3
  exact ⟨rfl, hb.trans (((Below.refl _ _).alloc (Nat.le_refl _) _).mono hb.size |>.trans (hb2.mono (by have := hb.size; simp; omega)))⟩
theorem refWeeks_no (y : Int) (w : World) (h : ¬ (1900 ≤ y ∧ y ≤ 2199)) :
    Calls Tryd.prog 9 #[.int .i64 y] w fun e w' => e = .returned (.int .i64 0) ∧ Below w.heap.size w w' := by
  have hc : y < 1900 ∨ (1900 ≤ y ∧ 2199 < y) := by omega
  clear h
  rcases hc with c | ⟨c, c'⟩
  all_goals
    go_enter Tryd.func9, Tryd.ntmps9
    go_wp2
    go_ret
    exact ⟨rfl, Below.refl _ _⟩
theorem refWeeks_yes (y : Int) (w : World) (h1 : 1900 ≤ y) (h2 : y ≤ 2199) :
    Calls Tryd.prog 9 #[.int .i64 y] w fun e w' => e = .returned (.int .i64 (wks y)) ∧ Below w.heap.size w w' := by
  have bb := bef_bd y h1 (by omega)
  have b2 := bef_bd (y + 1) (by omega) (by omega)
  have s := bef_succ y
  have l := lx_01 y
  have fb := fst_bd y
  have mb := mon_bd (bef (y + 1) - 3)
  have k1 : 1 ≤ bef (y + 1) - 3 := by omega
  have k2 : bef (y + 1) - 3 ≤ 109573 := by omega
  have k3 : fst y ≤ mon (bef (y + 1) - 3) := by omega
  have E : Hid ((mon (bef (y + 1) - 3) - fst y) / 7 + 1 = wks y) := Lib.hid rfl
  clear s
  go_enter Tryd.func9, Tryd.ntmps9
  go_wp2_with fail
  refine (refOf_four y _ h1 h2).mono ?_
  rintro e w1 ⟨rfl, hb⟩
  go_wp2_with fail
  refine (refFirst y _ h1 h2).mono ?_
  rintro e w2 ⟨rfl, hw⟩
  subst hw
  go_wp2_with fail
  refine (refOf_late y _ h1 h2).mono ?_
  rintro e w3 ⟨rfl, hb3⟩
  go_wp2_with fail
  refine (refMonday_any (bef (y + 1) - 3) _ k1 k2).mono ?_
  rintro e w4 ⟨rfl, hw⟩
  subst hw
  go_wp2
  go_ret
  exact ⟨ret_int E.out, hb.trans (hb3.mono hb.size)⟩
end Go.Proofs.YtbpcggiibiamlabDoor
