/-
  What is proved here: what each function of package day answers, for every input that it may be called with (contracts over the translation); its table of months is asked as a premise.
-/
import Derived.Test.YtikpfeaidgeebaaDoorDayLow
namespace Go.Proofs.YtikpfeaidgeebaaDoor
open Go.RowKit Cal

/-- The table of months, as it is laid. -/
def Tab (w : World) : Prop := ∀ i : Nat, i < 12 → w.cell? ⟨0, i, none⟩ = some (.int .i64 (md i))

theorem leap_any (y : Int) (w : World) :
    Calls Tryd.prog 43 #[.int .i64 y] w fun e w' => e = .returned (.bool (lp y)) ∧ w' = w := by
  go_enter Tryd.func43, Tryd.ntmps43
  go_wp2
  · go_ret; exact ⟨ret_bool (lp_t1 ‹_› ‹_›), rfl⟩
  · go_ret; exact ⟨ret_bool (lp_t2 ‹_› ‹_›), rfl⟩
  · go_ret; exact ⟨ret_bool (lp_t3 ‹_›), rfl⟩
/-- Is a number a day? -/
def isd (n : Int) : Bool := decide (1 ≤ n ∧ n ≤ 109573)
theorem isDay_any (n : Int) (w : World) :
    Calls Tryd.prog 38 #[.int .i64 n] w fun e w' => e = .returned (.bool (isd n)) ∧ w' = w := by
  by_cases h : 1 ≤ n
  all_goals
    go_enter Tryd.func38, Tryd.ntmps38
    go_wp2_with (go_at_call 45; refine (last_any _).mono ?_; rintro e w' ⟨rfl, rfl⟩)
    go_ret
    exact ⟨ret_bool (by unfold isd; rw [Bool.eq_iff_iff]; simp; omega), rfl⟩
theorem isd_yes {n : Int} (h1 : 1 ≤ n) (h2 : n ≤ 109573) : isd n = true := by unfold isd; simp; omega
theorem isd_no {n : Int} (h : ¬ (1 ≤ n ∧ n ≤ 109573)) : isd n = false := by unfold isd; exact decide_eq_false h
theorem ml_two {y : Int} (h : lp y = true) : (28 : Int) + 1 = ml y 2 := by simp [ml, lx_pos h]
theorem ml_two' {y : Int} (h : lp y = false) : md (2 - 1) = ml y 2 := by simp [ml, lx_neg h, md]
theorem ml_other {y m : Int} (h : ¬ m = 2) : md (m - 1) = ml y m := by simp [ml, h]
theorem monthLength_any (y m : Int) (w : World) (hT : Tab w) (h1 : 1 ≤ m) (h2 : m ≤ 12) :
    Calls Tryd.prog 36 #[.int .i64 y, .int .i64 m] w fun e w' => e = .returned (.int .i64 (ml y m)) ∧ w' = w := by
  have hc : w.cell? ⟨0, m.toNat - 1, none⟩ = some (.int .i64 (md (m - 1))) := by
    have k := hT (m.toNat - 1) (by omega)
    rwa [show ((m.toNat - 1 : Nat) : Int) = m - 1 by omega] at k
  have hc1 : w.cell? ⟨0, 1, none⟩ = some (.int .i64 28) := hT 1 (by decide)
  clear hT
  by_cases hm2 : m = 2
  · subst hm2
    rcases hl : lp y with _ | _
    · go_enter Tryd.func36, Tryd.ntmps36
      go_wp2_with (go_at_call 43; refine (leap_any _ _).mono ?_; rintro e w' ⟨rfl, rfl⟩)
      go_ret
      exact ⟨ret_int (ml_two' hl), rfl⟩
    · go_enter Tryd.func36, Tryd.ntmps36
      go_wp2_with (go_at_call 43; refine (leap_any _ _).mono ?_; rintro e w' ⟨rfl, rfl⟩)
      go_ret
      exact ⟨ret_int (ml_two hl), rfl⟩
  · go_enter Tryd.func36, Tryd.ntmps36
    go_wp2
    go_ret
    exact ⟨ret_int (ml_other hm2), rfl⟩

theorem Tab.pos {w : World} (h : Tab w) : 0 < w.heap.size := by
  have k := h 0 (by decide)
  rcases Nat.lt_or_ge 0 w.heap.size with q | q
  · exact q
  · simp [World.cell?, Array.getElem?_eq_none q] at k
theorem Tab.below {w w' : World} (h : Tab w) (b : Below w.heap.size w w') : Tab w' := fun i hi => (b.cell (p := ⟨0, i, none⟩) h.pos).trans (h i hi)
theorem Tab.alloc {w : World} (h : Tab w) (o : Obj) : Tab (w.alloc o) := h.below ((Below.refl _ _).alloc (Nat.le_refl _) _)
theorem Tab.drew {w : World} (h : Tab w) : Tab w.drew := h
theorem Tab.drewN {w : World} (h : Tab w) (n : Nat) : Tab (w.drewN n) := h.below (below_drewN (Below.refl _ _) n)

theorem days_yes (y m : Int) (w : World) (hT : Tab w) (a1 : 1900 ≤ y) (a2 : y ≤ 2199) (h1 : 1 ≤ m) (h2 : m ≤ 12) :
    Calls Tryd.prog 16 #[.int .i64 y, .int .i64 m] w fun e w' => e = .returned (.tuple #[.int .i64 (ml y m), .nilIface]) ∧ w' = w := by
  go_enter Tryd.func16, Tryd.ntmps16
  go_wp2_with (go_at_call 36; refine (monthLength_any _ _ _ hT h1 h2).mono ?_; rintro e w' ⟨rfl, rfl⟩)
  go_ret2
  exact ⟨rfl, rfl⟩
theorem days_no (y m : Int) (w : World) (h : ¬ (1900 ≤ y ∧ y ≤ 2199 ∧ 1 ≤ m ∧ m ≤ 12)) :
    Calls Tryd.prog 16 #[.int .i64 y, .int .i64 m] w fun e w' => e = .returned (.tuple #[.int .i64 0, errRange]) ∧ w' = w := by
  have hc : y < 1900 ∨ (1900 ≤ y ∧ 2199 < y) ∨ (1900 ≤ y ∧ y ≤ 2199 ∧ m < 1) ∨ (1900 ≤ y ∧ y ≤ 2199 ∧ 1 ≤ m ∧ 12 < m) := by omega
  clear h
  rcases hc with h | ⟨h, g⟩ | ⟨h, g, k⟩ | ⟨h, g, k, l⟩
  all_goals
    go_enter Tryd.func16, Tryd.ntmps16
    go_wp2
    go_ret2
    exact ⟨rfl, rfl⟩
theorem weekday_yes (n : Int) (w : World) (h1 : 1 ≤ n) (h2 : n ≤ 109573) :
    Calls Tryd.prog 18 #[.int .i64 n] w fun e w' => e = .returned (.tuple #[.int .i64 ((n - 1) % 7 + 1), .nilIface]) ∧ w' = w := by
  have hi := isd_yes h1 h2
  go_enter Tryd.func18, Tryd.ntmps18
  go_wp2_with (go_at_call 38; refine (isDay_any _ _).mono ?_; rintro e w' ⟨rfl, rfl⟩)
  go_ret2
  exact ⟨rfl, rfl⟩
theorem weekday_no (n : Int) (w : World) (h : ¬ (1 ≤ n ∧ n ≤ 109573)) :
    Calls Tryd.prog 18 #[.int .i64 n] w fun e w' => e = .returned (.tuple #[.int .i64 0, errRange]) ∧ w' = w := by
  have hi := isd_no h
  clear h
  go_enter Tryd.func18, Tryd.ntmps18
  go_wp2_with (go_at_call 38; refine (isDay_any _ _).mono ?_; rintro e w' ⟨rfl, rfl⟩)
  go_ret2
  exact ⟨rfl, rfl⟩
end Go.Proofs.YtikpfeaidgeebaaDoor
