/-
  What is proved here: the walk of chimelaw4.DayYears: it returns true for every year, and turns nothing that was there; the table of months is asked as a premise.
-/
import Derived.Test.YtpoajofkodgmhaaDoorDayOf
namespace Go.Proofs.YtpoajofkodgmhaaDoor
open Go.RowKit Cal

theorem years_eq1 (y : Int) : num y 12 31 - num y 1 1 + 1 = 365 + lx y := by simp [num, cum]; omega
set_option maxHeartbeats 1000000 in
theorem years_no (y : Int) (w : World) (hT : Tab w) (h : y < 1900 ∨ (1900 ≤ y ∧ 2199 < y)) :
    Calls Tryd.prog 5 #[.int .i64 y] w fun e w' => e = .returned (.bool true) ∧ Below w.heap.size w w' := by
  have l1 : lp 1900 = false := by decide
  have l2 : lp 2000 = true := by decide
  have l3 : lp 2024 = true := by decide
  have n1 : ¬ okD y 1 1 := by unfold okD; omega
  have n2 : ¬ okD y 12 31 := by unfold okD; omega
  have N1 : Hid (¬ okD y 1 1) := n1
  have N2 : Hid (¬ okD y 12 31) := n2
  clear n1 n2
  rcases h with h | ⟨h, g⟩
  all_goals
    go_enter Tryd.func5, Tryd.ntmps5
    go_wp2_with (go_at_call 15; refine (leap_any _ _).mono ?_; rintro e w' ⟨rfl, rfl⟩)
    refine (of_no y 1 1 _ hT N1.out).mono ?_
    rintro e w1 ⟨rfl, hb1⟩
    go_wp2_with fail
    refine (of_no y 12 31 _ (hT.below hb1) N2.out).mono ?_
    rintro e w2 ⟨rfl, hb2⟩
    go_wp2
    go_ret
    exact ⟨rfl, hb1.trans (hb2.mono hb1.size)⟩
set_option maxHeartbeats 2000000 in
theorem years_yes (y : Int) (w : World) (hT : Tab w) (h1 : 1900 ≤ y) (h2 : y ≤ 2199) :
    Calls Tryd.prog 5 #[.int .i64 y] w fun e w' => e = .returned (.bool true) ∧ Below w.heap.size w w' := by
  have l1 : lp 1900 = false := by decide
  have l2 : lp 2000 = true := by decide
  have l3 : lp 2024 = true := by decide
  have N1 : Hid (okD y 1 1) := ⟨h1, h2, by omega, by omega, by omega, by simp [ml, md]⟩
  have N2 : Hid (okD y 12 31) := ⟨h1, h2, by omega, by omega, by omega, by simp [ml, md]⟩
  have b1 := num_bd N1.out
  have b2 := num_bd N2.out
  have EQ : Hid (num y 12 31 - num y 1 1 + 1 = 365 + lx y) := years_eq1 y
  rcases hl : lp y with _ | _
  · have LX : Hid (lx y = 0) := lx_neg hl
    go_enter Tryd.func5, Tryd.ntmps5
    go_wp2_with (go_at_call 15; refine (leap_any _ _).mono ?_; rintro e w' ⟨rfl, rfl⟩)
    refine (of_yes y 1 1 _ hT N1.out).mono ?_
    rintro e w1 ⟨rfl, hb1⟩
    go_wp2_with fail
    refine (of_yes y 12 31 _ (hT.below hb1) N2.out).mono ?_
    rintro e w2 ⟨rfl, hb2⟩
    have hT2 := (hT.below hb1).below hb2
    have hbb := hb1.trans (hb2.mono hb1.size)
    clear hb1 hb2 hT
    go_wp2_with (go_at_call 15; refine (leap_any _ _).mono ?_; rintro e w' ⟨rfl, rfl⟩)
    go_loop [8, 9] (fun s t => ∃ k : Int, 1 ≤ k ∧ k ≤ 13 ∧ t = .int .i64 k ∧ s = .int .i64 (cum y k)) (fun _ t => (14 - intOf t).toNat)
    case atStart => exact ⟨1, by omega, by omega, rfl, by rw [cum_one]⟩
    case round =>
      obtain ⟨k, k1, k2, rfl, rfl⟩ := hrel
      have cb := cum_bd y k k1 k2
      have mb := ml_bd y k
      by_cases hlt : k ≤ 12
      · have CS : Hid (cum y (k + 1) = cum y k + ml y k) := cum_succ y k k1 hlt
        go_wp2_with (go_at_call 7; refine (days_yes _ _ _ hT2 h1 h2 k1 hlt).mono ?_; rintro e w' ⟨rfl, rfl⟩)
        go_round
        case rel => exact ⟨k + 1, by omega, by omega, rfl, by rw [CS.out]⟩
        case measure => simp [intOf]; omega
      · have hk : k = 13 := by omega
        subst hk
        have E1 : num y 12 31 - num y 1 1 + 1 = 365 + 0 := by rw [EQ.out, LX.out]
        have E2 : cum y 13 = 365 + 0 := by rw [cum_end, LX.out]
        have e1 : (num y 12 31 - num y 1 1 + 1 == 365) = true := by rw [E1]; rfl
        have e2 : (cum y 13 == 365) = true := by rw [E2]; rfl
        clear E1 E2
        go_wp2
        go_ret
        exact ⟨rfl, hbb⟩
  · have LX : Hid (lx y = 1) := lx_pos hl
    go_enter Tryd.func5, Tryd.ntmps5
    go_wp2_with (go_at_call 15; refine (leap_any _ _).mono ?_; rintro e w' ⟨rfl, rfl⟩)
    refine (of_yes y 1 1 _ hT N1.out).mono ?_
    rintro e w1 ⟨rfl, hb1⟩
    go_wp2_with fail
    refine (of_yes y 12 31 _ (hT.below hb1) N2.out).mono ?_
    rintro e w2 ⟨rfl, hb2⟩
    have hT2 := (hT.below hb1).below hb2
    have hbb := hb1.trans (hb2.mono hb1.size)
    clear hb1 hb2 hT
    go_wp2_with (go_at_call 15; refine (leap_any _ _).mono ?_; rintro e w' ⟨rfl, rfl⟩)
    go_loop [8, 9] (fun s t => ∃ k : Int, 1 ≤ k ∧ k ≤ 13 ∧ t = .int .i64 k ∧ s = .int .i64 (cum y k)) (fun _ t => (14 - intOf t).toNat)
    case atStart => exact ⟨1, by omega, by omega, rfl, by rw [cum_one]⟩
    case round =>
      obtain ⟨k, k1, k2, rfl, rfl⟩ := hrel
      have cb := cum_bd y k k1 k2
      have mb := ml_bd y k
      by_cases hlt : k ≤ 12
      · have CS : Hid (cum y (k + 1) = cum y k + ml y k) := cum_succ y k k1 hlt
        go_wp2_with (go_at_call 7; refine (days_yes _ _ _ hT2 h1 h2 k1 hlt).mono ?_; rintro e w' ⟨rfl, rfl⟩)
        go_round
        case rel => exact ⟨k + 1, by omega, by omega, rfl, by rw [CS.out]⟩
        case measure => simp [intOf]; omega
      · have hk : k = 13 := by omega
        subst hk
        have E1 : num y 12 31 - num y 1 1 + 1 = 365 + 1 := by rw [EQ.out, LX.out]
        have E2 : cum y 13 = 365 + 1 := by rw [cum_end, LX.out]
        have e1 : (num y 12 31 - num y 1 1 + 1 == 366) = true := by rw [E1]; rfl
        have e2 : (cum y 13 == 366) = true := by rw [E2]; rfl
        clear E1 E2
        go_wp2
        go_ret
        exact ⟨rfl, hbb⟩
end Go.Proofs.YtpoajofkodgmhaaDoor
