/-
  What is proved here: what the functions of the document's answer for days (package chimeref1: Leap, Days, ahead, Of, Date, Weekday) tell, as contracts over the translation.
-/
import Derived.Test.YtikpfeaidgeebaaDoorLow
namespace Go.Proofs.YtikpfeaidgeebaaDoor
open Go.RowKit Cal

theorem refLeap_any (y : Int) (w : World) :
    Calls Tryd.prog 19 #[.int .i64 y] w fun e w' => e = .returned (.bool (lp y)) ∧ w' = w := by
  go_enter Tryd.func19, Tryd.ntmps19
  go_wp2
  · go_ret; exact ⟨ret_bool (lp_t1 ‹_› ‹_›), rfl⟩
  · go_ret; exact ⟨ret_bool (lp_t2 ‹_› ‹_›), rfl⟩
  · go_ret; exact ⟨ret_bool (lp_t3 ‹_›), rfl⟩
theorem refDays_no (y m : Int) (w : World) (h : ¬ (1900 ≤ y ∧ y ≤ 2199 ∧ 1 ≤ m ∧ m ≤ 12)) :
    Calls Tryd.prog 6 #[.int .i64 y, .int .i64 m] w fun e w' => e = .returned (.int .i64 0) ∧ w' = w := by
  have hc : y < 1900 ∨ (1900 ≤ y ∧ 2199 < y) ∨ (1900 ≤ y ∧ y ≤ 2199 ∧ m < 1) ∨ (1900 ≤ y ∧ y ≤ 2199 ∧ 1 ≤ m ∧ 12 < m) := by omega
  clear h
  rcases hc with h | ⟨h, g⟩ | ⟨h, g, k⟩ | ⟨h, g, k, l⟩
  all_goals
    go_enter Tryd.func6, Tryd.ntmps6
    go_wp2
    go_ret
    exact ⟨rfl, rfl⟩
set_option maxHeartbeats 2000000 in
theorem refDays_yes (y m : Int) (w : World) (a1 : 1900 ≤ y) (a2 : y ≤ 2199) (h1 : 1 ≤ m) (h2 : m ≤ 12) :
    Calls Tryd.prog 6 #[.int .i64 y, .int .i64 m] w fun e w' => e = .returned (.int .i64 (ml y m)) ∧ w' = w := by
  by_cases hm2 : m = 2
  · subst hm2
    rcases hl : lp y with _ | _
    all_goals
      go_enter Tryd.func6, Tryd.ntmps6
      go_wp2_with (go_at_call 19; refine (refLeap_any _ _).mono ?_; rintro e w' ⟨rfl, rfl⟩)
      go_ret
      exact ⟨ret_int (by simp [ml, lx, hl]), rfl⟩
  · have hc : m = 4 ∨ m = 6 ∨ m = 9 ∨ m = 11 ∨ (¬ m = 4 ∧ ¬ m = 6 ∧ ¬ m = 9 ∧ ¬ m = 11) := by omega
    rcases hc with rfl | rfl | rfl | rfl | ⟨g1, g2, g3, g4⟩
    case inr.inr.inr.inr =>
      have E : ml y m = 31 := by unfold ml md; rw [if_neg hm2, if_neg (by omega), if_neg (by omega)]
      rw [E]
      clear E
      have b1 : (m == 4) = false := by simp [g1]
      have b2 : (m == 6) = false := by simp [g2]
      have b3 : (m == 9) = false := by simp [g3]
      have b4 : (m == 11) = false := by simp [g4]
      have b5 : (m == 2) = false := by simp [hm2]
      go_enter Tryd.func6, Tryd.ntmps6
      go_wp2_with (go_at_call 19; refine (refLeap_any _ _).mono ?_; rintro e w' ⟨rfl, rfl⟩)
      go_ret
      exact ⟨rfl, rfl⟩
    all_goals
      go_enter Tryd.func6, Tryd.ntmps6
      go_wp2
      go_ret
      exact ⟨ret_int (by simp [ml, md]), rfl⟩
theorem ahead_any (y : Int) (w : World) (h0 : 1 ≤ y) (h1 : y ≤ 10000) :
    Calls Tryd.prog 27 #[.int .i64 y] w fun e w' => e = .returned (.int .i64 (bef y)) ∧ w' = w := by
  go_enter Tryd.func27, Tryd.ntmps27
  go_wp2
  go_ret
  exact ⟨ret_int (by unfold bef; omega), rfl⟩
theorem refOf_no (y m d : Int) (w : World) (h : ¬ okD y m d) :
    Calls Tryd.prog 11 #[.agg #[.int .i64 y, .int .i64 m, .int .i64 d]] w fun e w' => e = .returned (.int .i64 0) ∧ Below w.heap.size w w' := by
  by_cases hb : 1900 ≤ y ∧ y ≤ 2199 ∧ 1 ≤ m ∧ m ≤ 12
  · obtain ⟨a, b, c, g⟩ := hb
    have hd : d < 1 ∨ (1 ≤ d ∧ ml y m < d) := by unfold okD at h; omega
    clear h
    rcases hd with k | ⟨k, l⟩
    all_goals
      go_enter Tryd.func11, Tryd.ntmps11
      go_wp2_with (go_at_call 6; refine (refDays_yes _ _ _ a b c g).mono ?_; rintro e w' ⟨rfl, rfl⟩)
      go_ret
      exact ⟨rfl, (Below.refl _ _).alloc (Nat.le_refl _) _⟩
  · clear h
    have hd : d < 1 ∨ (1 ≤ d ∧ 0 < d) := by omega
    rcases hd with k | ⟨k, l⟩
    all_goals
      go_enter Tryd.func11, Tryd.ntmps11
      go_wp2_with (go_at_call 6; refine (refDays_no _ _ _ hb).mono ?_; rintro e w' ⟨rfl, rfl⟩)
      go_ret
      exact ⟨rfl, (Below.refl _ _).alloc (Nat.le_refl _) _⟩
set_option maxHeartbeats 1000000 in
theorem refOf_yes (y m d : Int) (w : World) (h : okD y m d) :
    Calls Tryd.prog 11 #[.agg #[.int .i64 y, .int .i64 m, .int .i64 d]] w fun e w' => e = .returned (.int .i64 (num y m d)) ∧ Below w.heap.size w w' := by
  have hb := bef_bd y h.1 (by have := h.2.1; omega)
  have hml := ml_bd y m
  obtain ⟨a, b, c, g, k, l⟩ := h
  go_enter Tryd.func11, Tryd.ntmps11
  go_wp2_with (go_at_call 6; refine (refDays_yes _ _ _ a b c g).mono ?_; rintro e w' ⟨rfl, rfl⟩)
  go_quiet ((go_at_call 27; exact Calls.quiet_of_same (ahead_any _ _ (by omega) (by omega))))
  go_wp2
  go_loop [4, 5] (fun s i => ∃ k : Int, 1 ≤ k ∧ k ≤ m ∧ i = .int .i64 k ∧ s = .int .i64 (d + bef y + cum y k)) (fun _ i => (13 - intOf i).toNat)
  case atStart => exact ⟨1, by omega, by omega, rfl, by rw [cum_one]; simp⟩
  case round =>
    obtain ⟨k, k1, k2, rfl, rfl⟩ := hrel
    have cb := cum_bd y k k1 (by omega)
    have mb := ml_bd y k
    have CS : Hid (cum y (k + 1) = cum y k + ml y k) := cum_succ y k k1 (by omega)
    by_cases hlt : k < m
    · have k12 : k ≤ 12 := by omega
      go_wp2_with (go_at_call 6; refine (refDays_yes _ _ _ a b k1 k12).mono ?_; rintro e w' ⟨rfl, rfl⟩)
      go_round
      case rel => exact ⟨k + 1, by omega, by omega, rfl, by rw [CS.out]; go_num⟩
      case measure => simp [intOf]; omega
    · have hk : k = m := by omega
      subst hk
      go_wp2
      go_ret
      exact ⟨ret_int (by unfold num; omega), below_drewN ((Below.refl _ _).alloc (Nat.le_refl _) _) _⟩
end Go.Proofs.YtikpfeaidgeebaaDoor
