/-
  What is proved here: what day.Of answers of any date, and day.Date of any number (contracts over the translation); the table of months is asked as a premise.
-/
import Derived.Test.YtdiijpjfkgnjkaaDoorDay
namespace Go.Proofs.YtdiijpjfkgnjkaaDoor
open Go.RowKit Cal

theorem of_no (y m d : Int) (w : World) (hT : Tab w) (h : ¬ okD y m d) :
    Calls Tryd.prog 12 #[.agg #[.int .i64 y, .int .i64 m, .int .i64 d]] w fun e w' => e = .returned (.tuple #[.int .i64 0, errRange]) ∧ Below w.heap.size w w' := by
  by_cases hb : 1900 ≤ y ∧ y ≤ 2199 ∧ 1 ≤ m ∧ m ≤ 12
  · obtain ⟨a, b, c, g⟩ := hb
    have hd : d < 1 ∨ (1 ≤ d ∧ ml y m < d) := by unfold okD at h; omega
    clear h
    rcases hd with k | ⟨k, l⟩
    all_goals
      go_enter Tryd.func12, Tryd.ntmps12
      go_wp2_with (go_at_call 9; refine (days_yes _ _ _ (by exact hT.alloc _) a b c g).mono ?_; rintro e w' ⟨rfl, rfl⟩)
      go_ret2
      exact ⟨rfl, (Below.refl _ _).alloc (Nat.le_refl _) _⟩
  · clear h
    go_enter Tryd.func12, Tryd.ntmps12
    go_wp2_with (go_at_call 9; refine (days_no _ _ _ hb).mono ?_; rintro e w' ⟨rfl, rfl⟩)
    go_ret2
    exact ⟨rfl, (Below.refl _ _).alloc (Nat.le_refl _) _⟩
set_option maxHeartbeats 1000000 in
theorem of_yes (y m d : Int) (w : World) (hT : Tab w) (h : okD y m d) :
    Calls Tryd.prog 12 #[.agg #[.int .i64 y, .int .i64 m, .int .i64 d]] w fun e w' => e = .returned (.tuple #[.int .i64 (num y m d), .nilIface]) ∧ Below w.heap.size w w' := by
  have hb := bef_bd y h.1 (by have := h.2.1; omega)
  have hml := ml_bd y m
  obtain ⟨a, b, c, g, k, l⟩ := h
  go_enter Tryd.func12, Tryd.ntmps12
  go_wp2_with (go_at_call 9; refine (days_yes _ _ _ (by exact hT.alloc _) a b c g).mono ?_; rintro e w' ⟨rfl, rfl⟩)
  go_quiet ((go_at_call 35; exact Calls.quiet_of_same (beforeYear_any _ _ (by omega) (by omega))))
  go_wp2
  have hT2 : Tab ((w.alloc (.cells #[.int .i64 y, .int .i64 m, .int .i64 d] 23)).drewN nq) := (hT.alloc _).drewN nq
  go_loop [6, 7] (fun s i => ∃ k : Int, 1 ≤ k ∧ k ≤ m ∧ i = .int .i64 k ∧ s = .int .i64 (bef y + d + cum y k)) (fun _ i => (13 - intOf i).toNat)
  case atStart => exact ⟨1, by omega, by omega, rfl, by rw [cum_one]; simp⟩
  case round =>
    obtain ⟨k, k1, k2, rfl, rfl⟩ := hrel
    have cb := cum_bd y k k1 (by omega)
    have mb := ml_bd y k
    have CS : Hid (cum y (k + 1) = cum y k + ml y k) := cum_succ y k k1 (by omega)
    by_cases hlt : k < m
    · go_wp2_with (go_at_call 32; refine (monthLength_any _ _ _ hT2 (by omega) (by omega)).mono ?_; rintro e w' ⟨rfl, rfl⟩)
      go_round
      case rel => exact ⟨k + 1, by omega, by omega, rfl, by rw [CS.out]; go_num⟩
      case measure => simp [intOf]; omega
    · have hk : k = m := by omega
      subst hk
      go_wp2
      go_ret2
      exact ⟨rfl, below_drewN ((Below.refl _ _).alloc (Nat.le_refl _) _) _⟩

theorem date_no (n : Int) (w : World) (h : ¬ (1 ≤ n ∧ n ≤ 109573)) :
    Calls Tryd.prog 15 #[.int .i64 n] w fun e w' => e = .returned (.tuple #[noDate, errRange]) ∧ Below w.heap.size w w' := by
  have hi := isd_no h
  clear h
  go_enter Tryd.func15, Tryd.ntmps15
  go_wp2_with (go_at_call 36; refine (isDay_any _ _).mono ?_; rintro e w' ⟨rfl, rfl⟩)
  exact bodyPost_ret (v := .tuple #[noDate, errRange]) (by simp [results, Tryd.results15, go_sem]) rfl ⟨rfl, by repeat (first | exact Below.refl _ _ | refine Below.setCell ?_ (Nat.le_refl _) _ | refine Below.alloc ?_ (Nat.le_refl _) _)⟩
set_option maxHeartbeats 1000000 in
theorem date_yes (n : Int) (w : World) (hT : Tab w) (h1 : 1 ≤ n) (h2 : n ≤ 109573) :
    Calls Tryd.prog 15 #[.int .i64 n] w fun e w' => e = .returned (.tuple #[.agg #[.int .i64 (yr n), .int .i64 (mo n), .int .i64 (da n)], .nilIface]) ∧ Below w.heap.size w w' := by
  have hi := isd_yes h1 h2
  obtain ⟨y1, y2, y3, y4⟩ := yr_bd h1 h2
  have yb := bef_bd (yr n) y1 (by omega)
  have ys := bef_succ (yr n)
  have yl := lx_01 (yr n)
  have hr : n - bef (yr n) ≤ 365 + lx (yr n) := by omega
  clear ys y4
  go_enter Tryd.func15, Tryd.ntmps15
  go_wp2_with (first
    | (go_at_call 36; refine (isDay_any _ _).mono ?_; rintro e w' ⟨rfl, rfl⟩)
    | (go_at_call 37; refine (yearOf_any _ _ h1 h2).mono ?_; rintro e w' ⟨rfl, rfl⟩)
    | (go_at_call 35; refine (beforeYear_any _ _ (by omega) (by omega)).mono ?_; rintro e w' ⟨rfl, rfl⟩))
  have hT2 : Tab (w.alloc (.cells #[.int .i64 0, .int .i64 0, .int .i64 0] 23)) := hT.alloc _
  go_loop [5, 6] (fun t s => ∃ k : Int, 1 ≤ k ∧ k ≤ 12 ∧ t = .int .i64 k ∧ cum (yr n) k < n - bef (yr n) ∧ s = .int .i64 (n - bef (yr n) - cum (yr n) k)) (fun t _ => (13 - intOf t).toNat)
  case atStart => exact ⟨1, by omega, by omega, rfl, by rw [cum_one]; omega, by rw [cum_one]; simp⟩
  case round =>
    clear hi
    obtain ⟨k, k1, k2, rfl, k3, rfl⟩ := hrel
    have cb := cum_bd (yr n) k k1 (by omega)
    have mb := ml_bd (yr n) k
    have CS : Hid (cum (yr n) (k + 1) = cum (yr n) k + ml (yr n) k) := cum_succ (yr n) k k1 k2
    by_cases hlt : ml (yr n) k < n - bef (yr n) - cum (yr n) k
    · have hk : k < 12 := by
        rcases Int.lt_or_le k 12 with q | q
        · exact q
        · have : k = 12 := by omega
          subst this
          have e1 := CS.out
          have e2 : cum (yr n) (12 + 1) = 365 + lx (yr n) := cum_end (yr n)
          omega
      go_wp2_with (go_at_call 32; refine (monthLength_any _ _ _ hT2 (by omega) (by omega)).mono ?_; rintro e w' ⟨rfl, rfl⟩)
      go_round
      case rel => exact ⟨k + 1, by omega, by omega, rfl, by rw [CS.out]; omega, by rw [CS.out]; go_num⟩
      case measure => simp [intOf]; omega
    · have D : Hid (k = mo n ∧ n - bef (yr n) - cum (yr n) k = da n) := date_at h1 h2 k1 k2 k3 (by omega)
      go_wp2_with (go_at_call 32; refine (monthLength_any _ _ _ hT2 (by omega) (by omega)).mono ?_; rintro e w' ⟨rfl, rfl⟩)
      refine bodyPost_ret (v := .tuple #[.agg #[.int .i64 (yr n), .int .i64 k, .int .i64 (n - bef (yr n) - cum (yr n) k)], .nilIface]) (by simp [results, Tryd.results15, go_sem]) rfl ⟨by rw [D.out.2, D.out.1], ?_⟩
      repeat (first | exact Below.refl _ _ | refine Below.setCell ?_ (Nat.le_refl _) _ | refine Below.alloc ?_ (Nat.le_refl _) _)
end Go.Proofs.YtdiijpjfkgnjkaaDoor
