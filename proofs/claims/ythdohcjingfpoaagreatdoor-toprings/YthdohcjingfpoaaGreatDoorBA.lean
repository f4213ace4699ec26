/-
  What is proved here: what the smallest functions of package day answer (contracts over the translation), without the table of months.
  What is proved here: what each function of package day answers, for every input that it may be called with (contracts over the translation); its table of months is asked as a premise.
  What is proved here: what day.Of answers of any date, and day.Date of any number (contracts over the translation); the table of months is asked as a premise.
-/
import Derived.Test.YthdohcjingfpoaaGreatDoorLow
namespace Go.Proofs.YthdohcjingfpoaaGreatDoor
open Go.RowKit Cal


theorem leapsTo_any (y : Int) (w : World) (h0 : 0 ≤ y) (h1 : y ≤ 100000) :
    Calls Tryz.prog 89 #[.int .i64 y] w fun e w' => e = .returned (.int .i64 (y / 4 - y / 100 + y / 400)) ∧ w' = w := by
  go_enter Tryz.func89, Tryz.ntmps89
  go_wp2
  go_ret
  exact ⟨rfl, rfl⟩
theorem bef_raw (y : Int) : (y - 1900) * 365 + ((y - 1) / 4 - (y - 1) / 100 + (y - 1) / 400 - (1899 / 4 - 1899 / 100 + 1899 / 400)) = bef y := by unfold bef; omega
theorem beforeYear_any (y : Int) (w : World) (h0 : 1 ≤ y) (h1 : y ≤ 10000) :
    Calls Tryz.prog 52 #[.int .i64 y] w fun e w' => e = .returned (.int .i64 (bef y)) ∧ w' = w := by
  go_enter Tryz.func52, Tryz.ntmps52
  go_wp2_with (go_at_call 89; refine (leapsTo_any _ _ (by omega) (by omega)).mono ?_; rintro e w' ⟨rfl, rfl⟩)
  go_ret
  exact ⟨ret_int (bef_raw y), rfl⟩
theorem last_any (w : World) :
    Calls Tryz.prog 22 #[] w fun e w' => e = .returned (.int .i64 109573) ∧ w' = w := by
  go_enter Tryz.func22, Tryz.ntmps22
  go_wp2_with (go_at_call 52; refine (beforeYear_any _ _ (by omega) (by omega)).mono ?_; rintro e w' ⟨rfl, rfl⟩)
  go_ret
  exact ⟨ret_int bef_last, rfl⟩
end Go.Proofs.YthdohcjingfpoaaGreatDoor
namespace Go.Proofs.YthdohcjingfpoaaGreatDoor
open Go.RowKit Cal

/-- The table of months, as it is laid. -/
def Tab (w : World) : Prop := ∀ i : Nat, i < 12 → w.cell? ⟨1, i, none⟩ = some (.int .i64 (md i))

theorem leap_any (y : Int) (w : World) :
    Calls Tryz.prog 305 #[.int .i64 y] w fun e w' => e = .returned (.bool (lp y)) ∧ w' = w := by
  go_enter Tryz.func305, Tryz.ntmps305
  go_wp2
  · go_ret; exact ⟨ret_bool (lp_t1 ‹_› ‹_›), rfl⟩
  · go_ret; exact ⟨ret_bool (lp_t2 ‹_› ‹_›), rfl⟩
  · go_ret; exact ⟨ret_bool (lp_t3 ‹_›), rfl⟩
/-- Is a number a day? -/
def isd (n : Int) : Bool := decide (1 ≤ n ∧ n ≤ 109573)
theorem isDay_any (n : Int) (w : World) :
    Calls Tryz.prog 298 #[.int .i64 n] w fun e w' => e = .returned (.bool (isd n)) ∧ w' = w := by
  by_cases h : 1 ≤ n
  all_goals
    go_enter Tryz.func298, Tryz.ntmps298
    go_wp2_with (go_at_call 22; refine (last_any _).mono ?_; rintro e w' ⟨rfl, rfl⟩)
    go_ret
    exact ⟨ret_bool (by unfold isd; rw [Bool.eq_iff_iff]; simp; omega), rfl⟩
theorem isd_yes {n : Int} (h1 : 1 ≤ n) (h2 : n ≤ 109573) : isd n = true := by unfold isd; simp; omega
theorem isd_no {n : Int} (h : ¬ (1 ≤ n ∧ n ≤ 109573)) : isd n = false := by unfold isd; exact decide_eq_false h
theorem ml_two {y : Int} (h : lp y = true) : (28 : Int) + 1 = ml y 2 := by simp [ml, lx_pos h]
theorem ml_two' {y : Int} (h : lp y = false) : md (2 - 1) = ml y 2 := by simp [ml, lx_neg h, md]
theorem ml_other {y m : Int} (h : ¬ m = 2) : md (m - 1) = ml y m := by simp [ml, h]
theorem monthLength_any (y m : Int) (w : World) (hT : Tab w) (h1 : 1 ≤ m) (h2 : m ≤ 12) :
    Calls Tryz.prog 300 #[.int .i64 y, .int .i64 m] w fun e w' => e = .returned (.int .i64 (ml y m)) ∧ w' = w := by
  have hc : w.cell? ⟨1, m.toNat - 1, none⟩ = some (.int .i64 (md (m - 1))) := by
    have k := hT (m.toNat - 1) (by omega)
    rwa [show ((m.toNat - 1 : Nat) : Int) = m - 1 by omega] at k
  have hc1 : w.cell? ⟨1, 1, none⟩ = some (.int .i64 28) := hT 1 (by decide)
  clear hT
  by_cases hm2 : m = 2
  · subst hm2
    rcases hl : lp y with _ | _
    · go_enter Tryz.func300, Tryz.ntmps300
      go_wp2_with (go_at_call 305; refine (leap_any _ _).mono ?_; rintro e w' ⟨rfl, rfl⟩)
      go_ret
      exact ⟨ret_int (ml_two' hl), rfl⟩
    · go_enter Tryz.func300, Tryz.ntmps300
      go_wp2_with (go_at_call 305; refine (leap_any _ _).mono ?_; rintro e w' ⟨rfl, rfl⟩)
      go_ret
      exact ⟨ret_int (ml_two hl), rfl⟩
  · go_enter Tryz.func300, Tryz.ntmps300
    go_wp2
    go_ret
    exact ⟨ret_int (ml_other hm2), rfl⟩

theorem Tab.pos {w : World} (h : Tab w) : 1 < w.heap.size := by
  have k := h 0 (by decide)
  rcases Nat.lt_or_ge 1 w.heap.size with q | q
  · exact q
  · simp [World.cell?, Array.getElem?_eq_none q] at k
theorem Tab.below {w w' : World} (h : Tab w) (b : Below w.heap.size w w') : Tab w' := fun i hi => (b.cell (p := ⟨1, i, none⟩) h.pos).trans (h i hi)
theorem Tab.alloc {w : World} (h : Tab w) (o : Obj) : Tab (w.alloc o) := h.below ((Below.refl _ _).alloc (Nat.le_refl _) _)
theorem Tab.drew {w : World} (h : Tab w) : Tab w.drew := h
theorem Tab.drewN {w : World} (h : Tab w) (n : Nat) : Tab (w.drewN n) := h.below (below_drewN (Below.refl _ _) n)

theorem days_yes (y m : Int) (w : World) (hT : Tab w) (a1 : 1900 ≤ y) (a2 : y ≤ 2199) (h1 : 1 ≤ m) (h2 : m ≤ 12) :
    Calls Tryz.prog 288 #[.int .i64 y, .int .i64 m] w fun e w' => e = .returned (.tuple #[.int .i64 (ml y m), .nilIface]) ∧ w' = w := by
  go_enter Tryz.func288, Tryz.ntmps288
  go_wp2_with (go_at_call 300; refine (monthLength_any _ _ _ hT h1 h2).mono ?_; rintro e w' ⟨rfl, rfl⟩)
  go_ret2
  exact ⟨rfl, rfl⟩
theorem days_no (y m : Int) (w : World) (h : ¬ (1900 ≤ y ∧ y ≤ 2199 ∧ 1 ≤ m ∧ m ≤ 12)) :
    Calls Tryz.prog 288 #[.int .i64 y, .int .i64 m] w fun e w' => e = .returned (.tuple #[.int .i64 0, errRange]) ∧ w' = w := by
  have hc : y < 1900 ∨ (1900 ≤ y ∧ 2199 < y) ∨ (1900 ≤ y ∧ y ≤ 2199 ∧ m < 1) ∨ (1900 ≤ y ∧ y ≤ 2199 ∧ 1 ≤ m ∧ 12 < m) := by omega
  clear h
  rcases hc with h | ⟨h, g⟩ | ⟨h, g, k⟩ | ⟨h, g, k, l⟩
  all_goals
    go_enter Tryz.func288, Tryz.ntmps288
    go_wp2
    go_ret2
    exact ⟨rfl, rfl⟩
theorem weekday_yes (n : Int) (w : World) (h1 : 1 ≤ n) (h2 : n ≤ 109573) :
    Calls Tryz.prog 301 #[.int .i64 n] w fun e w' => e = .returned (.tuple #[.int .i64 ((n - 1) % 7 + 1), .nilIface]) ∧ w' = w := by
  have hi := isd_yes h1 h2
  go_enter Tryz.func301, Tryz.ntmps301
  go_wp2_with (go_at_call 298; refine (isDay_any _ _).mono ?_; rintro e w' ⟨rfl, rfl⟩)
  go_ret2
  exact ⟨rfl, rfl⟩
theorem weekday_no (n : Int) (w : World) (h : ¬ (1 ≤ n ∧ n ≤ 109573)) :
    Calls Tryz.prog 301 #[.int .i64 n] w fun e w' => e = .returned (.tuple #[.int .i64 0, errRange]) ∧ w' = w := by
  have hi := isd_no h
  clear h
  go_enter Tryz.func301, Tryz.ntmps301
  go_wp2_with (go_at_call 298; refine (isDay_any _ _).mono ?_; rintro e w' ⟨rfl, rfl⟩)
  go_ret2
  exact ⟨rfl, rfl⟩
theorem yearOf_any (n : Int) (w : World) (h1 : 1 ≤ n) (h2 : n ≤ 109573) :
    Calls Tryz.prog 299 #[.int .i64 n] w fun e w' => e = .returned (.int .i64 (yr n)) ∧ w' = w := by
  obtain ⟨g1, g2, g3⟩ := guess n h1 h2
  have G := g3
  go_enter Tryz.func299, Tryz.ntmps299
  go_wp2
  go_loop [3] (fun t => ∃ y : Int, 1900 ≤ y ∧ y ≤ 2199 ∧ bef y < n ∧ t = .int .i64 y) (fun t => (2200 - intOf t).toNat)
  case atStart => exact ⟨_, g1, g2, g3, rfl⟩
  case round =>
    clear g1 g2 g3 G
    obtain ⟨y, a, b, c, rfl⟩ := hrel
    by_cases hlt : bef (y + 1) < n
    · have hy : y < 2199 := by
        rcases Int.lt_or_le y 2199 with q | q
        · exact q
        · have : y = 2199 := by omega
          subst this
          have e : bef (2199 + 1) = 109573 := bef_last
          omega
      go_wp2_with (go_at_call 52; refine (beforeYear_any _ _ (by omega) (by omega)).mono ?_; rintro e w' ⟨rfl, rfl⟩)
      go_round
      case rel => exact ⟨y + 1, by omega, by omega, hlt, rfl⟩
      case measure => simp [intOf]; omega
    · go_wp2_with (go_at_call 52; refine (beforeYear_any _ _ (by omega) (by omega)).mono ?_; rintro e w' ⟨rfl, rfl⟩)
      go_ret
      exact ⟨ret_int (yr_of h1 h2 c (by omega)).symm, rfl⟩
end Go.Proofs.YthdohcjingfpoaaGreatDoor
namespace Go.Proofs.YthdohcjingfpoaaGreatDoor
open Go.RowKit Cal

theorem of_no (y m d : Int) (w : World) (hT : Tab w) (h : ¬ okD y m d) :
    Calls Tryz.prog 302 #[.agg #[.int .i64 y, .int .i64 m, .int .i64 d]] w fun e w' => e = .returned (.tuple #[.int .i64 0, errRange]) ∧ Below w.heap.size w w' := by
  by_cases hb : 1900 ≤ y ∧ y ≤ 2199 ∧ 1 ≤ m ∧ m ≤ 12
  · obtain ⟨a, b, c, g⟩ := hb
    have hd : d < 1 ∨ (1 ≤ d ∧ ml y m < d) := by unfold okD at h; omega
    clear h
    rcases hd with k | ⟨k, l⟩
    all_goals
      go_enter Tryz.func302, Tryz.ntmps302
      go_wp2_with (go_at_call 288; refine (days_yes _ _ _ (by exact hT.alloc _) a b c g).mono ?_; rintro e w' ⟨rfl, rfl⟩)
      go_ret2
      exact ⟨rfl, (Below.refl _ _).alloc (Nat.le_refl _) _⟩
  · clear h
    go_enter Tryz.func302, Tryz.ntmps302
    go_wp2_with (go_at_call 288; refine (days_no _ _ _ hb).mono ?_; rintro e w' ⟨rfl, rfl⟩)
    go_ret2
    exact ⟨rfl, (Below.refl _ _).alloc (Nat.le_refl _) _⟩
set_option maxHeartbeats 1000000 in
theorem of_yes (y m d : Int) (w : World) (hT : Tab w) (h : okD y m d) :
    Calls Tryz.prog 302 #[.agg #[.int .i64 y, .int .i64 m, .int .i64 d]] w fun e w' => e = .returned (.tuple #[.int .i64 (num y m d), .nilIface]) ∧ Below w.heap.size w w' := by
  have hb := bef_bd y h.1 (by have := h.2.1; omega)
  have hml := ml_bd y m
  obtain ⟨a, b, c, g, k, l⟩ := h
  go_enter Tryz.func302, Tryz.ntmps302
  go_wp2_with (go_at_call 288; refine (days_yes _ _ _ (by exact hT.alloc _) a b c g).mono ?_; rintro e w' ⟨rfl, rfl⟩)
  go_quiet ((go_at_call 52; exact Calls.quiet_of_same (beforeYear_any _ _ (by omega) (by omega))))
  go_wp2
  have hT2 : Tab ((w.alloc (.cells #[.int .i64 y, .int .i64 m, .int .i64 d] 279)).drewN nq) := (hT.alloc _).drewN nq
  go_loop [6, 7] (fun s i => ∃ k : Int, 1 ≤ k ∧ k ≤ m ∧ i = .int .i64 k ∧ s = .int .i64 (bef y + d + cum y k)) (fun _ i => (13 - intOf i).toNat)
  case atStart => exact ⟨1, by omega, by omega, rfl, by rw [cum_one]; simp⟩
  case round =>
    obtain ⟨k, k1, k2, rfl, rfl⟩ := hrel
    have cb := cum_bd y k k1 (by omega)
    have mb := ml_bd y k
    have CS : Hid (cum y (k + 1) = cum y k + ml y k) := cum_succ y k k1 (by omega)
    by_cases hlt : k < m
    · go_wp2_with (go_at_call 300; refine (monthLength_any _ _ _ hT2 (by omega) (by omega)).mono ?_; rintro e w' ⟨rfl, rfl⟩)
      go_round
      case rel => exact ⟨k + 1, by omega, by omega, rfl, by rw [CS.out]; go_num⟩
      case measure => simp [intOf]; omega
    · have hk : k = m := by omega
      subst hk
      go_wp2
      go_ret2
      exact ⟨rfl, below_drewN ((Below.refl _ _).alloc (Nat.le_refl _) _) _⟩

theorem date_no (n : Int) (w : World) (h : ¬ (1 ≤ n ∧ n ≤ 109573)) :
    Calls Tryz.prog 283 #[.int .i64 n] w fun e w' => e = .returned (.tuple #[noDate, errRange]) ∧ Below w.heap.size w w' := by
  have hi := isd_no h
  clear h
  go_enter Tryz.func283, Tryz.ntmps283
  go_wp2_with (go_at_call 298; refine (isDay_any _ _).mono ?_; rintro e w' ⟨rfl, rfl⟩)
  exact bodyPost_ret (v := .tuple #[noDate, errRange]) (by simp [results, Tryz.results283, go_sem]) rfl ⟨rfl, by repeat (first | exact Below.refl _ _ | refine Below.setCell ?_ (Nat.le_refl _) _ | refine Below.alloc ?_ (Nat.le_refl _) _)⟩
set_option maxHeartbeats 1000000 in
theorem date_yes (n : Int) (w : World) (hT : Tab w) (h1 : 1 ≤ n) (h2 : n ≤ 109573) :
    Calls Tryz.prog 283 #[.int .i64 n] w fun e w' => e = .returned (.tuple #[.agg #[.int .i64 (yr n), .int .i64 (mo n), .int .i64 (da n)], .nilIface]) ∧ Below w.heap.size w w' := by
  have hi := isd_yes h1 h2
  obtain ⟨y1, y2, y3, y4⟩ := yr_bd h1 h2
  have yb := bef_bd (yr n) y1 (by omega)
  have ys := bef_succ (yr n)
  have yl := lx_01 (yr n)
  have hr : n - bef (yr n) ≤ 365 + lx (yr n) := by omega
  clear ys y4
  go_enter Tryz.func283, Tryz.ntmps283
  go_wp2_with (first
    | (go_at_call 298; refine (isDay_any _ _).mono ?_; rintro e w' ⟨rfl, rfl⟩)
    | (go_at_call 299; refine (yearOf_any _ _ h1 h2).mono ?_; rintro e w' ⟨rfl, rfl⟩)
    | (go_at_call 52; refine (beforeYear_any _ _ (by omega) (by omega)).mono ?_; rintro e w' ⟨rfl, rfl⟩))
  have hT2 : Tab (w.alloc (.cells #[.int .i64 0, .int .i64 0, .int .i64 0] 279)) := hT.alloc _
  go_loop [5, 6] (fun t s => ∃ k : Int, 1 ≤ k ∧ k ≤ 12 ∧ t = .int .i64 k ∧ cum (yr n) k < n - bef (yr n) ∧ s = .int .i64 (n - bef (yr n) - cum (yr n) k)) (fun t _ => (13 - intOf t).toNat)
  case atStart => exact ⟨1, by omega, by omega, rfl, by rw [cum_one]; omega, by rw [cum_one]; simp⟩
  case round =>
    clear hi
    obtain ⟨k, k1, k2, rfl, k3, rfl⟩ := hrel
    have cb := cum_bd (yr n) k k1 (by omega)
    have mb := ml_bd (yr n) k
    have CS : Hid (cum (yr n) (k + 1) = cum (yr n) k + ml (yr n) k) := cum_succ (yr n) k k1 k2
    by_cases hlt : ml (yr n) k < n - bef (yr n) - cum (yr n) k
    · have hk : k < 12 := by
        rcases Int.lt_or_le k 12 with q | q
        · exact q
        · have : k = 12 := by omega
          subst this
          have e1 := CS.out
          have e2 : cum (yr n) (12 + 1) = 365 + lx (yr n) := cum_end (yr n)
          omega
      go_wp2_with (go_at_call 300; refine (monthLength_any _ _ _ hT2 (by omega) (by omega)).mono ?_; rintro e w' ⟨rfl, rfl⟩)
      go_round
      case rel => exact ⟨k + 1, by omega, by omega, rfl, by rw [CS.out]; omega, by rw [CS.out]; go_num⟩
      case measure => simp [intOf]; omega
    · have D : Hid (k = mo n ∧ n - bef (yr n) - cum (yr n) k = da n) := date_at h1 h2 k1 k2 k3 (by omega)
      go_wp2_with (go_at_call 300; refine (monthLength_any _ _ _ hT2 (by omega) (by omega)).mono ?_; rintro e w' ⟨rfl, rfl⟩)
      refine bodyPost_ret (v := .tuple #[.agg #[.int .i64 (yr n), .int .i64 k, .int .i64 (n - bef (yr n) - cum (yr n) k)], .nilIface]) (by simp [results, Tryz.results283, go_sem]) rfl ⟨by rw [D.out.2, D.out.1], ?_⟩
      repeat (first | exact Below.refl _ _ | refine Below.setCell ?_ (Nat.le_refl _) _ | refine Below.alloc ?_ (Nat.le_refl _) _)
end Go.Proofs.YthdohcjingfpoaaGreatDoor
