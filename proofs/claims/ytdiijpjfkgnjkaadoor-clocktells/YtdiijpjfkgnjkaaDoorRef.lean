/-
  What is proved here: what the functions of the document's answer for days (package chimeref1: Leap, Days, ahead, Of, Date, Weekday) tell, as contracts over the translation.
-/
import Derived.Test.YtdiijpjfkgnjkaaDoorLow
namespace Go.Proofs.YtdiijpjfkgnjkaaDoor
open Go.RowKit Cal

theorem refLeap_any (y : Int) (w : World) :
    Calls Tryd.prog 18 #[.int .i64 y] w fun e w' => e = .returned (.bool (lp y)) ∧ w' = w := by
  go_enter Tryd.func18, Tryd.ntmps18
  go_wp2
  · go_ret; exact ⟨ret_bool (lp_t1 ‹_› ‹_›), rfl⟩
  · go_ret; exact ⟨ret_bool (lp_t2 ‹_› ‹_›), rfl⟩
  · go_ret; exact ⟨ret_bool (lp_t3 ‹_›), rfl⟩
theorem refDays_no (y m : Int) (w : World) (h : ¬ (1900 ≤ y ∧ y ≤ 2199 ∧ 1 ≤ m ∧ m ≤ 12)) :
    Calls Tryd.prog 8 #[.int .i64 y, .int .i64 m] w fun e w' => e = .returned (.int .i64 0) ∧ w' = w := by
  have hc : y < 1900 ∨ (1900 ≤ y ∧ 2199 < y) ∨ (1900 ≤ y ∧ y ≤ 2199 ∧ m < 1) ∨ (1900 ≤ y ∧ y ≤ 2199 ∧ 1 ≤ m ∧ 12 < m) := by omega
  clear h
  rcases hc with h | ⟨h, g⟩ | ⟨h, g, k⟩ | ⟨h, g, k, l⟩
  all_goals
    go_enter Tryd.func8, Tryd.ntmps8
    go_wp2
    go_ret
    exact ⟨rfl, rfl⟩
set_option maxHeartbeats 2000000 in
theorem refDays_yes (y m : Int) (w : World) (a1 : 1900 ≤ y) (a2 : y ≤ 2199) (h1 : 1 ≤ m) (h2 : m ≤ 12) :
    Calls Tryd.prog 8 #[.int .i64 y, .int .i64 m] w fun e w' => e = .returned (.int .i64 (ml y m)) ∧ w' = w := by
  by_cases hm2 : m = 2
  · subst hm2
    rcases hl : lp y with _ | _
    all_goals
      go_enter Tryd.func8, Tryd.ntmps8
      go_wp2_with (go_at_call 18; refine (refLeap_any _ _).mono ?_; rintro e w' ⟨rfl, rfl⟩)
      go_ret
      exact ⟨ret_int (by simp [ml, lx, hl]), rfl⟩
  · have hc : m = 4 ∨ m = 6 ∨ m = 9 ∨ m = 11 ∨ (¬ m = 4 ∧ ¬ m = 6 ∧ ¬ m = 9 ∧ ¬ m = 11) := by omega
    rcases hc with rfl | rfl | rfl | rfl | ⟨g1, g2, g3, g4⟩
    case inr.inr.inr.inr =>
      have E : ml y m = 31 := by unfold ml md; rw [if_neg hm2, if_neg (by omega), if_neg (by omega)]
      rw [E]
      clear E
      have b1 : (m == 4) = false := by simp [g1]
      have b2 : (m == 6) = false := by simp [g2]
      have b3 : (m == 9) = false := by simp [g3]
      have b4 : (m == 11) = false := by simp [g4]
      have b5 : (m == 2) = false := by simp [hm2]
      go_enter Tryd.func8, Tryd.ntmps8
      go_wp2_with (go_at_call 18; refine (refLeap_any _ _).mono ?_; rintro e w' ⟨rfl, rfl⟩)
      go_ret
      exact ⟨rfl, rfl⟩
    all_goals
      go_enter Tryd.func8, Tryd.ntmps8
      go_wp2
      go_ret
      exact ⟨ret_int (by simp [ml, md]), rfl⟩
theorem ahead_any (y : Int) (w : World) (h0 : 1 ≤ y) (h1 : y ≤ 10000) :
    Calls Tryd.prog 34 #[.int .i64 y] w fun e w' => e = .returned (.int .i64 (bef y)) ∧ w' = w := by
  go_enter Tryd.func34, Tryd.ntmps34
  go_wp2
  go_ret
  exact ⟨ret_int (by unfold bef; omega), rfl⟩
theorem refWeekday_any (n : Int) (w : World) (h1 : 1 ≤ n) (h2 : n ≤ 109573) :
    Calls Tryd.prog 14 #[.int .i64 n] w fun e w' => e = .returned (.int .i64 ((n - 1) % 7 + 1)) ∧ w' = w := by
  go_enter Tryd.func14, Tryd.ntmps14
  go_wp2
  go_ret
  exact ⟨rfl, rfl⟩
theorem refOf_no (y m d : Int) (w : World) (h : ¬ okD y m d) :
    Calls Tryd.prog 11 #[.agg #[.int .i64 y, .int .i64 m, .int .i64 d]] w fun e w' => e = .returned (.int .i64 0) ∧ Below w.heap.size w w' := by
  by_cases hb : 1900 ≤ y ∧ y ≤ 2199 ∧ 1 ≤ m ∧ m ≤ 12
  · obtain ⟨a, b, c, g⟩ := hb
    have hd : d < 1 ∨ (1 ≤ d ∧ ml y m < d) := by unfold okD at h; omega
    clear h
    rcases hd with k | ⟨k, l⟩
    all_goals
      go_enter Tryd.func11, Tryd.ntmps11
      go_wp2_with (go_at_call 8; refine (refDays_yes _ _ _ a b c g).mono ?_; rintro e w' ⟨rfl, rfl⟩)
      go_ret
      exact ⟨rfl, (Below.refl _ _).alloc (Nat.le_refl _) _⟩
  · clear h
    have hd : d < 1 ∨ (1 ≤ d ∧ 0 < d) := by omega
    rcases hd with k | ⟨k, l⟩
    all_goals
      go_enter Tryd.func11, Tryd.ntmps11
      go_wp2_with (go_at_call 8; refine (refDays_no _ _ _ hb).mono ?_; rintro e w' ⟨rfl, rfl⟩)
      go_ret
      exact ⟨rfl, (Below.refl _ _).alloc (Nat.le_refl _) _⟩
set_option maxHeartbeats 1000000 in
theorem refOf_yes (y m d : Int) (w : World) (h : okD y m d) :
    Calls Tryd.prog 11 #[.agg #[.int .i64 y, .int .i64 m, .int .i64 d]] w fun e w' => e = .returned (.int .i64 (num y m d)) ∧ Below w.heap.size w w' := by
  have hb := bef_bd y h.1 (by have := h.2.1; omega)
  have hml := ml_bd y m
  obtain ⟨a, b, c, g, k, l⟩ := h
  go_enter Tryd.func11, Tryd.ntmps11
  go_wp2_with (go_at_call 8; refine (refDays_yes _ _ _ a b c g).mono ?_; rintro e w' ⟨rfl, rfl⟩)
  go_quiet ((go_at_call 34; exact Calls.quiet_of_same (ahead_any _ _ (by omega) (by omega))))
  go_wp2
  go_loop [4, 5] (fun s i => ∃ k : Int, 1 ≤ k ∧ k ≤ m ∧ i = .int .i64 k ∧ s = .int .i64 (d + bef y + cum y k)) (fun _ i => (13 - intOf i).toNat)
  case atStart => exact ⟨1, by omega, by omega, rfl, by rw [cum_one]; simp⟩
  case round =>
    obtain ⟨k, k1, k2, rfl, rfl⟩ := hrel
    have cb := cum_bd y k k1 (by omega)
    have mb := ml_bd y k
    have CS : Hid (cum y (k + 1) = cum y k + ml y k) := cum_succ y k k1 (by omega)
    by_cases hlt : k < m
    · have k12 : k ≤ 12 := by omega
      go_wp2_with (go_at_call 8; refine (refDays_yes _ _ _ a b k1 k12).mono ?_; rintro e w' ⟨rfl, rfl⟩)
      go_round
      case rel => exact ⟨k + 1, by omega, by omega, rfl, by rw [CS.out]; go_num⟩
      case measure => simp [intOf]; omega
    · have hk : k = m := by omega
      subst hk
      go_wp2
      go_ret
      exact ⟨ret_int (by unfold num; omega), below_drewN ((Below.refl _ _).alloc (Nat.le_refl _) _) _⟩
theorem refDate_no (n : Int) (w : World) (h : ¬ (1 ≤ n ∧ n ≤ 109573)) :
    Calls Tryd.prog 13 #[.int .i64 n] w fun e w' => e = .returned (.tuple #[noDate, .bool false]) ∧ Below w.heap.size w w' := by
  have hd : n < 1 ∨ (1 ≤ n ∧ 109573 < n) := by omega
  clear h
  rcases hd with k | ⟨k, l⟩
  all_goals
    go_enter Tryd.func13, Tryd.ntmps13
    go_wp2
    exact bodyPost_ret (v := .tuple #[noDate, .bool false]) (by simp [results, Tryd.results13, go_sem]) rfl ⟨rfl, by repeat (first | exact Below.refl _ _ | refine Below.setCell ?_ (Nat.le_refl _) _ | refine Below.alloc ?_ (Nat.le_refl _) _)⟩
set_option maxHeartbeats 2000000 in
theorem refDate_yes (n : Int) (w : World) (h1 : 1 ≤ n) (h2 : n ≤ 109573) :
    Calls Tryd.prog 13 #[.int .i64 n] w fun e w' => e = .returned (.tuple #[.agg #[.int .i64 (yr n), .int .i64 (mo n), .int .i64 (da n)], .bool true]) ∧ Below w.heap.size w w' := by
  obtain ⟨g1, g2, g3⟩ := guess n h1 h2
  go_enter Tryd.func13, Tryd.ntmps13
  go_wp2
  go_loop [4] (fun t => ∃ y : Int, 1900 ≤ y ∧ y ≤ 2199 ∧ bef y < n ∧ t = .int .i64 y) (fun t => (2200 - intOf t).toNat)
  case atStart => exact ⟨_, g1, g2, g3, rfl⟩
  case round =>
    clear g1 g2 g3
    obtain ⟨y, a, b, c, rfl⟩ := hrel
    by_cases hlt : bef (y + 1) < n
    · have hy : y < 2199 := by
        rcases Int.lt_or_le y 2199 with q | q
        · exact q
        · have : y = 2199 := by omega
          subst this
          have e : bef (2199 + 1) = 109573 := bef_last
          omega
      go_wp2_with (go_at_call 34; refine (ahead_any _ _ (by omega) (by omega)).mono ?_; rintro e w' ⟨rfl, rfl⟩)
      go_round
      case rel => exact ⟨y + 1, by omega, by omega, hlt, rfl⟩
      case measure => simp [intOf]; omega
    · have Y : yr n = y := yr_of h1 h2 c (by omega)
      subst Y
      have yb := bef_bd (yr n) a (by omega)
      have ys := bef_succ (yr n)
      have yl := lx_01 (yr n)
      have hr : n - bef (yr n) ≤ 365 + lx (yr n) := by omega
      clear ys
      go_wp2_with (go_at_call 34; refine (ahead_any _ _ (by omega) (by omega)).mono ?_; rintro e w' ⟨rfl, rfl⟩)
      go_loop [0, 5] (fun s t => ∃ k : Int, 1 ≤ k ∧ k ≤ 12 ∧ t = .int .i64 k ∧ cum (yr n) k < n - bef (yr n) ∧ s = .int .i64 (n - bef (yr n) - cum (yr n) k)) (fun _ t => (13 - intOf t).toNat)
      case atStart => exact ⟨1, by omega, by omega, rfl, by rw [cum_one]; omega, by rw [cum_one]; simp⟩
      case round =>
        obtain ⟨k, k1, k2, rfl, k3, rfl⟩ := hrel
        have cb := cum_bd (yr n) k k1 (by omega)
        have mb := ml_bd (yr n) k
        have CS : Hid (cum (yr n) (k + 1) = cum (yr n) k + ml (yr n) k) := cum_succ (yr n) k k1 k2
        by_cases hlt : ml (yr n) k < n - bef (yr n) - cum (yr n) k
        · have hk : k < 12 := by
            rcases Int.lt_or_le k 12 with q | q
            · exact q
            · have : k = 12 := by omega
              subst this
              have e1 := CS.out
              have e2 : cum (yr n) (12 + 1) = 365 + lx (yr n) := cum_end (yr n)
              omega
          go_wp2_with (go_at_call 8; refine (refDays_yes _ _ _ a b k1 k2).mono ?_; rintro e w' ⟨rfl, rfl⟩)
          go_round
          case rel => exact ⟨k + 1, by omega, by omega, rfl, by rw [CS.out]; omega, by rw [CS.out]; go_num⟩
          case measure => simp [intOf]; omega
        · have D : Hid (k = mo n ∧ n - bef (yr n) - cum (yr n) k = da n) := date_at h1 h2 k1 k2 k3 (by omega)
          go_wp2_with (go_at_call 8; refine (refDays_yes _ _ _ a b k1 k2).mono ?_; rintro e w' ⟨rfl, rfl⟩)
          refine bodyPost_ret (v := .tuple #[.agg #[.int .i64 (yr n), .int .i64 k, .int .i64 (n - bef (yr n) - cum (yr n) k)], .bool true]) (by simp [results, Tryd.results13, go_sem]) rfl ⟨by rw [D.out.2, D.out.1], ?_⟩
          repeat (first | exact Below.refl _ _ | refine Below.setCell ?_ (Nat.le_refl _) _ | refine Below.alloc ?_ (Nat.le_refl _) _)
end Go.Proofs.YtdiijpjfkgnjkaaDoor
