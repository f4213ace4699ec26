/-
  What is proved here: the walk of chimelaw1.WeekTells: it returns true for every input, and turns nothing that was there; the table of months and errors.errorType are asked as premises.
-/
import Derived.Test.YtbpcggiibiamlabDoorWkTellsBase
namespace Go.Proofs.YtbpcggiibiamlabDoor
open Go.RowKit Cal

set_option maxRecDepth 100000 in
set_option maxHeartbeats 40000000 in
theorem wtells (n y v m N k : Int) (w : World) (hT : Tab w) (hE : ErrTy w) :
    Calls Tryd.prog 3 #[.int .i64 n, .int .i64 y, .int .i64 v, .int .i64 m, .agg #[.int .i64 N, .int .i64 k]] w fun e w' => e = .returned (.bool true) ∧ Below w.heap.size w w' := by
  obtain ⟨a, f, hn, hr⟩ := nth_both y m N k
  have HN := Lib.hid hn
  have HR := Lib.hid hr
  clear hn hr
  have K := KeepX.start (N := N) (k := k) 23 hT hE
  clear hT hE
  go_enter Tryd.func3, Tryd.ntmps3
  go_wp2_with fail
  by_cases hA : 1 ≤ n ∧ n ≤ 109573 ∧ mon n + 3 ≤ 109573
  all_goals
    have HA := Lib.hid hA
    clear hA
    first
      | (refine (refWeek_yes n _ HA.out.1 HA.out.2.1 HA.out.2.2).mono ?_
         rintro e ua ⟨rfl, hb⟩
         have K' := K.on hb
         clear hb K
         have K := K'
         clear K'
         go_wp2_with fail
         refine (week_yes n _ K.1 HA.out.1 HA.out.2.2 HA.out.2.1).mono ?_
         rintro e ub ⟨rfl, hb⟩
         have K' := K.on hb
         clear hb K
         have K := K'
         clear K'
         go_wp2_with fail
         refine (errT_nil _).mono ?_
         rintro e uc ⟨rfl, hb⟩
         have K' := K.on hb
         clear hb K
         have K := K'
         clear K'
         go_wp2_with fail)
      | (refine (refWeek_no n _ HA.out).mono ?_
         rintro e ua ⟨rfl, hb⟩
         have K' := K.on hb
         clear hb K
         have K := K'
         clear K'
         go_wp2_with fail
         refine (week_no n _ HA.out).mono ?_
         rintro e ub ⟨rfl, hb⟩
         have K' := K.on hb
         clear hb K
         have K := K'
         clear K'
         go_wp2_with fail
         refine (errT_one _ K.2.2.1).mono ?_
         rintro e uc ⟨rfl, hb⟩
         have K' := K.on hb
         clear hb K
         have K := K'
         clear K'
         go_wp2_with fail)
  all_goals
    rcases (by omega : ¬ (1900 ≤ y ∧ y ≤ 2199) ∨ ((1900 ≤ y ∧ y ≤ 2199) ∧ v < 1) ∨ ((1900 ≤ y ∧ y ≤ 2199) ∧ 1 ≤ v ∧ wks y < v) ∨ ((1900 ≤ y ∧ y ≤ 2199) ∧ 1 ≤ v ∧ v ≤ wks y)) with hB | ⟨hB, c⟩ | ⟨hB, c, c'⟩ | ⟨hB, c, c'⟩
  all_goals
    have HB := Lib.hid hB
    clear hB
    first
      | (have h1 := HB.out.1
         have h2 := HB.out.2
         have fb := fst_bd y
         have fp := fst_pos h1
         have bb := bef_bd y h1 (by omega)
         have wk : wks y ≤ 53 := by have := wks_two y; omega
         have wk1 : 52 ≤ wks y := by have := wks_two y; omega
         have wz : (wks y == 0) = false := by rw [beq_eq_false_iff_ne]; omega
         refine (refWeeks_yes y _ h1 h2).mono ?_
         rintro e ud ⟨rfl, hb⟩
         have K' := K.on hb
         clear hb K
         have K := K'
         clear K'
         go_wp2_with fail
         refine (weeks_yes y _ K.1 h1 h2).mono ?_
         rintro e ue ⟨rfl, hb⟩
         have K' := K.on hb
         clear hb K
         have K := K'
         clear K'
         go_wp2_with fail
         refine (errT_nil _).mono ?_
         rintro e uf ⟨rfl, hb⟩
         have K' := K.on hb
         clear hb K
         have K := K'
         clear K'
         go_wp2_with fail
         refine (refOf_four y _ h1 h2).mono ?_
         rintro e ug ⟨rfl, hb⟩
         have K' := K.on hb
         clear hb K
         have K := K'
         clear K'
         go_wp2_with fail
         refine (refFirst y _ h1 h2).mono ?_
         rintro e uh ⟨rfl, hw⟩
         subst hw
         go_wp2_with fail
         refine (first_yes y v _ K.1 h1 h2 c c').mono ?_
         rintro e ui ⟨rfl, hb⟩
         have K' := K.on hb
         clear hb K
         have K := K'
         clear K'
         go_wp2_with fail
         refine (errT_nil _).mono ?_
         rintro e uj ⟨rfl, hb⟩
         have K' := K.on hb
         clear hb K
         have K := K'
         clear K')
      | (have h1 := HB.out.1
         have h2 := HB.out.2
         have fb := fst_bd y
         have fp := fst_pos h1
         have bb := bef_bd y h1 (by omega)
         have wk : wks y ≤ 53 := by have := wks_two y; omega
         have wk1 : 52 ≤ wks y := by have := wks_two y; omega
         have wz : (wks y == 0) = false := by rw [beq_eq_false_iff_ne]; omega
         refine (refWeeks_yes y _ h1 h2).mono ?_
         rintro e ud ⟨rfl, hb⟩
         have K' := K.on hb
         clear hb K
         have K := K'
         clear K'
         go_wp2_with fail
         refine (weeks_yes y _ K.1 h1 h2).mono ?_
         rintro e ue ⟨rfl, hb⟩
         have K' := K.on hb
         clear hb K
         have K := K'
         clear K'
         go_wp2_with fail
         refine (errT_nil _).mono ?_
         rintro e uf ⟨rfl, hb⟩
         have K' := K.on hb
         clear hb K
         have K := K'
         clear K'
         go_wp2_with fail
         refine (refOf_four y _ h1 h2).mono ?_
         rintro e ug ⟨rfl, hb⟩
         have K' := K.on hb
         clear hb K
         have K := K'
         clear K'
         go_wp2_with fail
         refine (refFirst y _ h1 h2).mono ?_
         rintro e uh ⟨rfl, hw⟩
         subst hw
         go_wp2_with fail
         refine (first_no y v _ K.1 (by omega)).mono ?_
         rintro e ui ⟨rfl, hb⟩
         have K' := K.on hb
         clear hb K
         have K := K'
         clear K'
         go_wp2_with fail
         refine (errT_one _ K.2.2.1).mono ?_
         rintro e uj ⟨rfl, hb⟩
         have K' := K.on hb
         clear hb K
         have K := K'
         clear K')
      | (refine (refWeeks_no y _ HB.out).mono ?_
         rintro e ud ⟨rfl, hb⟩
         have K' := K.on hb
         clear hb K
         have K := K'
         clear K'
         go_wp2_with fail
         refine (weeks_no y _ K.1 HB.out).mono ?_
         rintro e ue ⟨rfl, hb⟩
         have K' := K.on hb
         clear hb K
         have K := K'
         clear K'
         go_wp2_with fail
         refine (errT_one _ K.2.2.1).mono ?_
         rintro e uf ⟨rfl, hb⟩
         have K' := K.on hb
         clear hb K
         have K := K'
         clear K'
         go_wp2_with fail
         refine (first_no y v _ K.1 (fun q => HB.out ⟨q.1, q.2.1⟩)).mono ?_
         rintro e ui ⟨rfl, hb⟩
         have K' := K.on hb
         clear hb K
         have K := K'
         clear K'
         go_wp2_with fail
         refine (errT_one _ K.2.2.1).mono ?_
         rintro e uj ⟨rfl, hb⟩
         have K' := K.on hb
         clear hb K
         have K := K'
         clear K')
  all_goals
    clear HB
    obtain ⟨P_0, P_1⟩ := id K.2.2.2
    go_wp2_with fail
    clear P_0 P_1
    refine (HR.out _).mono ?_
    rintro e uk ⟨rfl, hb⟩
    have K' := K.on hb
    clear hb K
    have K := K'
    clear K'
    obtain ⟨P_0, P_1⟩ := id K.2.2.2
    go_wp2_with fail
    clear P_0 P_1
    refine (HN.out _ K.1).mono ?_
    rintro e ul ⟨rfl, hb⟩
    have K' := K.on hb
    clear hb K
    have K := K'
    clear K'
    go_wp2_with fail
    refine (errT_fault _ _ K.2.2.1).mono ?_
    rintro e um ⟨rfl, hb⟩
    have K' := K.on hb
    clear hb K
    have K := K'
    clear K'
    go_wp2_with fail
    clear HR HN
  all_goals
    by_cases hD : 1 ≤ n ∧ n ≤ 109573
  all_goals
    have HD := Lib.hid hD
    clear hD
    first
      | (exfalso; have h1 := HA.out; have h2 := HD.out; exact h2 ⟨h1.1, h1.2.1⟩)
      | (have h1 := HD.out.1
         have h2 := HD.out.2
         obtain ⟨p, q, he, hw⟩ := ends_both h1 h2
         have HE := Lib.hid he
         have HW := Lib.hid hw
         clear he hw
         refine (refDate_yes n _ h1 h2).mono ?_
         rintro e un ⟨rfl, hb⟩
         have K' := K.on hb
         clear hb K
         have K := K'
         clear K'
         go_wp2_with fail
         refine (HE.out _).mono ?_
         rintro e uo ⟨rfl, hb⟩
         obtain ⟨⟨c1, c2, c3, c4⟩, ⟨f1, f2, f3, f4⟩, s1, s2⟩ := two_kept _ hb
         obtain ⟨L1, L2, L3⟩ := two_laid _ p q (wd n) hb
         have K' := K.on L3
         clear hb K L3
         have K := K'
         clear K'
         go_wp2_with fail
         refine (refWeekday_wd n _ h1 h2).mono ?_
         rintro e up ⟨rfl, hw⟩
         subst hw
         go_wp2_with fail
         clear c1 c2 c3 c4 f1 f2 f3 f4
         refine (HW.out _ K.1).mono ?_
         rintro e uq ⟨rfl, hb⟩
         have K' := K.on hb
         have M1 := L1.on hb
         have M2 := L2.on hb
         clear hb K L1 L2
         have K := (K'.alloc (.cells #[.int .i64 p, .int .i64 (wd n)] 23)).alloc (.cells #[.int .i64 q, .int .i64 (wd n)] 23)
         have M3 := (M1.alloc (.cells #[.int .i64 p, .int .i64 (wd n)] 23)).alloc (.cells #[.int .i64 q, .int .i64 (wd n)] 23)
         have M4 := (M2.alloc (.cells #[.int .i64 p, .int .i64 (wd n)] 23)).alloc (.cells #[.int .i64 q, .int .i64 (wd n)] 23)
         have M5 := (Two.new uq p (wd n) 23).alloc (.cells #[.int .i64 q, .int .i64 (wd n)] 23)
         have M6 : Two ((uq.alloc (.cells #[.int .i64 p, .int .i64 (wd n)] 23)).alloc (.cells #[.int .i64 q, .int .i64 (wd n)] 23)) (uq.heap.size + 1) q (wd n) := ⟨by simp, by simp⟩
         clear K' M1 M2
         go_wp2_with fail
         refine (errT_nil _).mono ?_
         rintro e ur ⟨rfl, hb⟩
         have K' := K.on hb
         obtain ⟨x1, x2⟩ := M3.on hb
         obtain ⟨x3, x4⟩ := M4.on hb
         obtain ⟨x5, x6⟩ := M5.on hb
         obtain ⟨x7, x8⟩ := M6.on hb
         clear hb K M3 M4 M5 M6 HE HW HA HD
         go_wp2_with fail
         go_ret
         exact ⟨rfl, K'.2.1⟩)
      | (refine (refDate_no n _ HD.out).mono ?_
         rintro e un ⟨rfl, hb⟩
         have K' := K.on hb
         clear hb K
         have K := K'
         clear K'
         go_wp2_with fail
         have K' := (K.alloc (.cells #[.int .i64 0, .int .i64 0] 23)).alloc (.cells #[.int .i64 0, .int .i64 0] 23)
         refine (which_no n _ HD.out).mono ?_
         rintro e uq ⟨rfl, hb⟩
         obtain ⟨⟨c1, c2, c3, c4⟩, _, _, _⟩ := two_kept _ hb
         have M1 : Two uq un.heap.size 0 0 := ⟨c1, c2⟩
         have M2 : Two uq (un.heap.size + 1) 0 0 := ⟨c3, c4⟩
         have K2 := K'.on hb
         clear hb K K' c1 c2 c3 c4
         have K := (K2.alloc (.cells #[.int .i64 0, .int .i64 0] 23)).alloc (.cells #[.int .i64 0, .int .i64 0] 23)
         have M3 := (M1.alloc (.cells #[.int .i64 0, .int .i64 0] 23)).alloc (.cells #[.int .i64 0, .int .i64 0] 23)
         have M4 := (M2.alloc (.cells #[.int .i64 0, .int .i64 0] 23)).alloc (.cells #[.int .i64 0, .int .i64 0] 23)
         have M5 := (Two.new uq 0 0 23).alloc (.cells #[.int .i64 0, .int .i64 0] 23)
         have M6 : Two ((uq.alloc (.cells #[.int .i64 0, .int .i64 0] 23)).alloc (.cells #[.int .i64 0, .int .i64 0] 23)) (uq.heap.size + 1) 0 0 := ⟨by simp, by simp⟩
         clear K2 M1 M2
         go_wp2_with fail
         refine (errT_one _ K.2.2.1).mono ?_
         rintro e ur ⟨rfl, hb⟩
         have K' := K.on hb
         obtain ⟨x1, x2⟩ := M3.on hb
         obtain ⟨x3, x4⟩ := M4.on hb
         obtain ⟨x5, x6⟩ := M5.on hb
         obtain ⟨x7, x8⟩ := M6.on hb
         clear hb K M3 M4 M5 M6 HA HD
         go_wp2_with fail
         go_ret
         exact ⟨rfl, K'.2.1⟩)
end Go.Proofs.YtbpcggiibiamlabDoor
