/-
  What is proved here: what week.mondayOf, Week, Weeks and First answer, for every input (contracts over the translation); the table of months is asked as a premise.
-/
import Derived.Test.YtbpcggiibiamlabDoorDat
import Derived.Test.YtbpcggiibiamlabDoorWk
import Derived.Lib.Hide
namespace Go.Proofs.YtbpcggiibiamlabDoor
open Go.RowKit Cal

theorem mon_raw (n : Int) : n - ((n - 1) % 7 + 1) + 1 = mon n := by unfold mon; omega
theorem ret_pair {a b : Int} {v : Value} (h : a = b) : Ending.returned (.tuple #[.int .i64 a, v]) = .returned (.tuple #[.int .i64 b, v]) := by rw [h]
theorem mondayOf_yes (n : Int) (w : World) (h1 : 1 ≤ n) (h2 : n ≤ 109573) :
    Calls Tryd.prog 23 #[.int .i64 n] w fun e w' => e = .returned (.tuple #[.int .i64 (mon n), .nilIface]) ∧ w' = w := by
  go_enter Tryd.func23, Tryd.ntmps23
  go_wp2_with (go_at_call 21; refine (weekday_yes _ _ h1 h2).mono ?_; rintro e w' ⟨rfl, rfl⟩)
  go_ret2
  exact ⟨ret_pair (mon_raw n), rfl⟩
theorem mondayOf_no (n : Int) (w : World) (h : ¬ (1 ≤ n ∧ n ≤ 109573)) :
    Calls Tryd.prog 23 #[.int .i64 n] w fun e w' => e = .returned (.tuple #[.int .i64 0, errRange]) ∧ w' = w := by
  have H := Lib.hid h
  clear h
  go_enter Tryd.func23, Tryd.ntmps23
  go_wp2_with (go_at_call 21; refine (weekday_no _ _ H.out).mono ?_; rintro e w' ⟨rfl, rfl⟩)
  go_ret2
  exact ⟨rfl, rfl⟩
theorem of_jan (y : Int) (w : World) (hT : Tab w) (h1 : 1900 ≤ y) (h2 : y ≤ 2199) :
    Calls Tryd.prog 24 #[.agg #[.int .i64 y, .int .i64 1, .int .i64 1]] w fun e w' => e = .returned (.tuple #[.int .i64 (bef y + 1), .nilIface]) ∧ Below w.heap.size w w' := by
  have := of_yes y 1 1 w hT (ok_first h1 h2 (by omega) (by omega))
  rwa [num_first] at this
theorem of_four (y : Int) (w : World) (hT : Tab w) (h1 : 1900 ≤ y) (h2 : y ≤ 2199) :
    Calls Tryd.prog 24 #[.agg #[.int .i64 y, .int .i64 1, .int .i64 4]] w fun e w' => e = .returned (.tuple #[.int .i64 (bef y + 4), .nilIface]) ∧ Below w.heap.size w w' := by
  have := of_yes y 1 4 w hT (ok_four h1 h2)
  rwa [num_four] at this
set_option maxHeartbeats 1000000 in
theorem week_yes (n : Int) (w : World) (hT : Tab w) (h1 : 1 ≤ n) (h3 : mon n + 3 ≤ 109573) (h2 : n ≤ 109573) :
    Calls Tryd.prog 7 #[.int .i64 n] w fun e w' => e = .returned (.tuple #[.int .i64 (wky n), .int .i64 (wkn n), .nilIface]) ∧ Below w.heap.size w w' := by
  have m := mon_bd n
  have m1 : 1 ≤ mon n := by unfold mon; omega
  obtain ⟨y1, y2, y3, y4⟩ := yr_bd (n := mon n + 3) (by omega) h3
  have bb := bef_bd (yr (mon n + 3)) y1 (by omega)
  have E : Hid ((mon n + 3 - (bef (yr (mon n + 3)) + 1)) / 7 + 1 = wkn n) := Lib.hid wkn_th
  go_enter Tryd.func7, Tryd.ntmps7
  go_wp2_with fail
  refine (mondayOf_yes n _ h1 h2).mono ?_
  rintro e w' ⟨rfl, hw⟩
  subst hw
  go_wp2_with fail
  refine (date_yes (mon n + 3) _ hT (by omega) h3).mono ?_
  rintro e w1 ⟨rfl, hb⟩
  have T1 := (hT.below hb).alloc (.cells #[.int .i64 (yr (mon n + 3)), .int .i64 (mo (mon n + 3)), .int .i64 (da (mon n + 3))] 36)
  have D1 := Dat.new w1 (yr (mon n + 3)) (mo (mon n + 3)) (da (mon n + 3)) 36
  go_wp2_with fail
  refine (of_jan (yr (mon n + 3)) _ T1 y1 y2).mono ?_
  rintro e w2 ⟨rfl, hb2⟩
  obtain ⟨D_0, D_1, D_2⟩ := D1.on hb2
  clear D1 T1
  go_wp2
  go_ret3
  exact ⟨by rw [E.out]; rfl, hb.trans (((Below.refl _ _).alloc (Nat.le_refl _) _).mono hb.size |>.trans (hb2.mono (by have := hb.size; simp; omega)))⟩
theorem week_none (n : Int) (w : World) (h : ¬ (1 ≤ n ∧ n ≤ 109573)) :
    Calls Tryd.prog 7 #[.int .i64 n] w fun e w' => e = .returned (.tuple #[.int .i64 0, .int .i64 0, errRange]) ∧ Below w.heap.size w w' := by
  have H := Lib.hid h
  clear h
  go_enter Tryd.func7, Tryd.ntmps7
  go_wp2_with fail
  refine (mondayOf_no n _ H.out).mono ?_
  rintro e w' ⟨rfl, hw⟩
  subst hw
  go_wp2
  go_ret3
  exact ⟨rfl, Below.refl _ _⟩
theorem week_late (n : Int) (w : World) (h1 : 1 ≤ n) (h2 : n ≤ 109573) (h3 : ¬ mon n + 3 ≤ 109573) :
    Calls Tryd.prog 7 #[.int .i64 n] w fun e w' => e = .returned (.tuple #[.int .i64 0, .int .i64 0, errRange]) ∧ Below w.heap.size w w' := by
  have m := mon_bd n
  go_enter Tryd.func7, Tryd.ntmps7
  go_wp2_with fail
  refine (mondayOf_yes n _ h1 h2).mono ?_
  rintro e w' ⟨rfl, hw⟩
  subst hw
  go_wp2_with fail
  refine (date_no (mon n + 3) _ (by omega)).mono ?_
  rintro e w1 ⟨rfl, hb⟩
  go_wp2
  go_ret3
  exact ⟨rfl, hb.trans ((Below.refl _ _).alloc hb.size _)⟩
theorem week_no (n : Int) (w : World) (h : ¬ (1 ≤ n ∧ n ≤ 109573 ∧ mon n + 3 ≤ 109573)) :
    Calls Tryd.prog 7 #[.int .i64 n] w fun e w' => e = .returned (.tuple #[.int .i64 0, .int .i64 0, errRange]) ∧ Below w.heap.size w w' := by
  by_cases h1 : 1 ≤ n ∧ n ≤ 109573
  · exact week_late n w h1.1 h1.2 (fun k => h ⟨h1.1, h1.2, k⟩)
  · exact week_none n w h1
theorem weeks_yes (y : Int) (w : World) (hT : Tab w) (h1 : 1900 ≤ y) (h2 : y ≤ 2199) :
    Calls Tryd.prog 10 #[.int .i64 y] w fun e w' => e = .returned (.tuple #[.int .i64 (wks y), .nilIface]) ∧ Below w.heap.size w w' := by
  have L := Lib.hid (late_in h1 h2)
  go_enter Tryd.func10, Tryd.ntmps10
  go_wp2_with fail
  refine (of_yes y 12 28 _ hT (ok_late h1 h2)).mono ?_
  rintro e w1 ⟨rfl, hb⟩
  have T1 := hT.below hb
  go_wp2_with fail
  refine (week_yes (num y 12 28) _ T1 L.out.1 L.out.2.2.1 L.out.2.1).mono ?_
  rintro e w2 ⟨rfl, hb2⟩
  go_wp2
  go_ret2
  exact ⟨ret_pair L.out.2.2.2.2, hb.trans (hb2.mono hb.size)⟩
theorem weeks_no (y : Int) (w : World) (hT : Tab w) (h : ¬ (1900 ≤ y ∧ y ≤ 2199)) :
    Calls Tryd.prog 10 #[.int .i64 y] w fun e w' => e = .returned (.tuple #[.int .i64 0, errRange]) ∧ Below w.heap.size w w' := by
  have H := Lib.hid h
  clear h
  go_enter Tryd.func10, Tryd.ntmps10
  go_wp2_with fail
  refine (of_no y 12 28 _ hT (fun k => H.out ⟨k.1, k.2.1⟩)).mono ?_
  rintro e w1 ⟨rfl, hb⟩
  go_wp2
  go_ret2
  exact ⟨rfl, hb⟩
theorem first_yes (y v : Int) (w : World) (hT : Tab w) (h1 : 1900 ≤ y) (h2 : y ≤ 2199) (a : 1 ≤ v) (b : v ≤ wks y) :
    Calls Tryd.prog 13 #[.int .i64 y, .int .i64 v] w fun e w' => e = .returned (.tuple #[.int .i64 (fst y + (v - 1) * 7), .nilIface]) ∧ Below w.heap.size w w' := by
  have bb := bef_bd y h1 (by omega)
  have fb := fst_bd y
  have wb : wks y ≤ 53 := by have := wks_two y; omega
  have y5 : bef y + 4 ≤ 109573 := by have := num_bd (ok_four h1 h2); rw [num_four] at this; exact this.2
  go_enter Tryd.func13, Tryd.ntmps13
  go_wp2_with fail
  refine (weeks_yes y _ hT h1 h2).mono ?_
  rintro e w1 ⟨rfl, hb⟩
  have T1 := hT.below hb
  go_wp2_with fail
  refine (of_four y _ T1 h1 h2).mono ?_
  rintro e w2 ⟨rfl, hb2⟩
  go_wp2_with fail
  refine (mondayOf_yes (bef y + 4) _ (by omega) y5).mono ?_
  rintro e w3 ⟨rfl, hw⟩
  subst hw
  have F : Hid (mon (bef y + 4) = fst y) := Lib.hid rfl
  have F1 : bef y - 2 ≤ mon (bef y + 4) := fb.1
  have F2 : mon (bef y + 4) ≤ bef y + 4 := fb.2
  go_wp2
  go_ret2
  exact ⟨ret_pair rfl, hb.trans (hb2.mono hb.size)⟩
theorem first_no (y v : Int) (w : World) (hT : Tab w) (h : ¬ (1900 ≤ y ∧ y ≤ 2199 ∧ 1 ≤ v ∧ v ≤ wks y)) :
    Calls Tryd.prog 13 #[.int .i64 y, .int .i64 v] w fun e w' => e = .returned (.tuple #[.int .i64 0, errRange]) ∧ Below w.heap.size w w' := by
  by_cases hy : 1900 ≤ y ∧ y ≤ 2199
  · obtain ⟨h1, h2⟩ := hy
    have hc : v < 1 ∨ (1 ≤ v ∧ wks y < v) := by omega
    clear h
    rcases hc with c | ⟨c, c'⟩
    all_goals
      go_enter Tryd.func13, Tryd.ntmps13
      go_wp2_with fail
      refine (weeks_yes y _ hT h1 h2).mono ?_
      rintro e w1 ⟨rfl, hb⟩
      go_wp2
      go_ret2
      exact ⟨rfl, hb⟩
  · have H := Lib.hid hy
    clear h hy
    go_enter Tryd.func13, Tryd.ntmps13
    go_wp2_with fail
    refine (weeks_no y _ hT H.out).mono ?_
    rintro e w1 ⟨rfl, hb⟩
    go_wp2
    go_ret2
    exact ⟨rfl, hb⟩
end Go.Proofs.YtbpcggiibiamlabDoor
