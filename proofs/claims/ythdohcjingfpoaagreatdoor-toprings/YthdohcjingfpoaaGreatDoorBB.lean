/-
  What is proved here: plain facts on weeks (of which year a day's week is, and which; how many a year has; which weekday stands where in a month); no program is named.
  What is proved here: what week.mondayOf, Week, Weeks and First answer, for every input (contracts over the translation); the table of months is asked as a premise.
  What is proved here: what week.isNth, Nth and Which answer, for every input (contracts over the translation); the table of months is asked as a premise.
  What is proved here: what week.Which answers, for every input (contracts over the translation); the table of months is asked as a premise.
-/
import Derived.Test.YthdohcjingfpoaaGreatDoorPU
import Derived.Test.YthdohcjingfpoaaGreatDoorBA
namespace Go.Proofs.YthdohcjingfpoaaGreatDoor.Cal

/-- The Monday of a day's week. -/
def mon (n : Int) : Int := n - (n - 1) % 7
/-- The weekday of a day. -/
def wd (n : Int) : Int := (n - 1) % 7 + 1
/-- The Monday of a year's first week (that of January 4). -/
def fst (y : Int) : Int := mon (bef y + 4)
/-- How many weeks a year has. -/
def wks (y : Int) : Int := (mon (bef (y + 1) - 3) - fst y) / 7 + 1
/-- Of which year a day's week is, and which it is. -/
def wky (n : Int) : Int := yr (mon n + 3)
def wkn (n : Int) : Int := (n - fst (wky n)) / 7 + 1

theorem wd_bd (n : Int) : 1 ≤ wd n ∧ wd n ≤ 7 := by unfold wd; omega
theorem mon_bd (n : Int) : mon n ≤ n ∧ n ≤ mon n + 6 := by unfold mon; omega
theorem mon_wd (n : Int) : wd (mon n) = 1 := by unfold wd mon; omega
theorem num_four (y : Int) : num y 1 4 = bef y + 4 := by simp [num, cum]
theorem num_late (y : Int) : num y 12 28 = bef (y + 1) - 3 := by rw [bef_succ]; simp [num, cum]; omega
theorem ok_four {y : Int} (h1 : 1900 ≤ y) (h2 : y ≤ 2199) : okD y 1 4 := ⟨h1, h2, by omega, by omega, by omega, by simp [ml, md]⟩
theorem ok_late {y : Int} (h1 : 1900 ≤ y) (h2 : y ≤ 2199) : okD y 12 28 := ⟨h1, h2, by omega, by omega, by omega, by simp [ml, md]⟩
theorem wks_two (y : Int) : wks y = 52 ∨ wks y = 53 := by
  have a := bef_succ y
  have b := lx_01 y
  unfold wks fst mon; rw [a]; omega
theorem fst_next (y : Int) : fst (y + 1) = fst y + 7 * wks y := by
  have a := bef_succ y
  have b := lx_01 y
  unfold wks fst mon; rw [a]; omega
theorem fst_bd (y : Int) : bef y - 2 ≤ fst y ∧ fst y ≤ bef y + 4 := by unfold fst mon; omega
theorem fst_wd (y : Int) : wd (fst y) = 1 := mon_wd _
/-- A day is in its week, and the week is one of its year. -/
theorem week_in {n : Int} (h : 1 ≤ n) (h2 : mon n + 3 ≤ 109573) : 1900 ≤ wky n ∧ wky n ≤ 2199 ∧ 1 ≤ wkn n ∧ wkn n ≤ wks (wky n) ∧ fst (wky n) + (wkn n - 1) * 7 = mon n := by
  have m := mon_bd n
  have m1 : 1 ≤ mon n := by unfold mon; omega
  obtain ⟨a, b, c, d⟩ := yr_bd (n := mon n + 3) (by omega) h2
  have e : wky n = yr (mon n + 3) := rfl
  refine ⟨a, b, ?_⟩
  unfold wkn
  rw [e]
  generalize yr (mon n + 3) = y at *
  unfold wks fst
  unfold mon at *
  omega
/-- A week of a year begins on the Monday that it is told by. -/
theorem week_of {y w : Int} (h1 : 1900 ≤ y) (h2 : y ≤ 2199) (a : 1 ≤ w) (b : w ≤ wks y) (p : 1 ≤ fst y + (w - 1) * 7) :
    wky (fst y + (w - 1) * 7) = y ∧ wkn (fst y + (w - 1) * 7) = w ∧ mon (fst y + (w - 1) * 7) = fst y + (w - 1) * 7 ∧ fst y + (w - 1) * 7 + 3 ≤ 109573 := by
  have s := bef_succ y
  have l := lx_01 y
  have hm : mon (fst y + (w - 1) * 7) = fst y + (w - 1) * 7 := by unfold fst mon; omega
  have t1 : bef y < fst y + (w - 1) * 7 + 3 := by unfold fst mon; omega
  have t2 : fst y + (w - 1) * 7 + 3 ≤ bef (y + 1) := by unfold wks fst at b; unfold fst mon at *; omega
  have t3 : bef (y + 1) ≤ 109573 := (bef_bd (y + 1) (by omega) (by omega)).2
  have hy : wky (fst y + (w - 1) * 7) = y := by
    unfold wky; rw [hm]; exact yr_of (by omega) (by omega) t1 t2
  refine ⟨hy, ?_, hm, by omega⟩
  unfold wkn; rw [hy]; omega
/-! Which weekday stands where in a month whose first day is f and that is so long. -/
theorem nth_pos {f d k N : Int} (h1 : 1 ≤ k) (h7 : k ≤ 7) : (wd (f + d - 1) = k ∧ (d - 1) / 7 + 1 = N) ↔ d = 1 + (k - wd f) % 7 + 7 * (N - 1) := by
  unfold wd; omega
theorem nth_neg {f d k N size : Int} (h1 : 1 ≤ k) (h7 : k ≤ 7) : (wd (f + d - 1) = k ∧ -((size - d) / 7 + 1) = N) ↔ d = size - (wd (f + size - 1) - k) % 7 + 7 * (N + 1) := by
  unfold wd; omega
theorem num_day (y m d : Int) : num y m d = num y m 1 + d - 1 := by unfold num; omega
theorem num_first (y : Int) : num y 1 1 = bef y + 1 := by simp [num, cum]
theorem ok_first {y m : Int} (h1 : 1900 ≤ y) (h2 : y ≤ 2199) (a : 1 ≤ m) (b : m ≤ 12) : okD y m 1 := ⟨h1, h2, a, b, by omega, by have := ml_bd y m; omega⟩
/-- Which week, told by its Thursday. -/
theorem wkn_th {n : Int} : (mon n + 3 - (bef (wky n) + 1)) / 7 + 1 = wkn n := by
  unfold wkn fst
  generalize bef (wky n) = b
  unfold mon; omega
theorem late_in {y : Int} (h1 : 1900 ≤ y) (h2 : y ≤ 2199) : 1 ≤ num y 12 28 ∧ num y 12 28 ≤ 109573 ∧ mon (num y 12 28) + 3 ≤ 109573 ∧ wky (num y 12 28) = y ∧ wkn (num y 12 28) = wks y := by
  have a := num_bd (ok_late h1 h2)
  have b := num_late y
  have c := (bef_bd (y + 1) (by omega) (by omega)).2
  have m := mon_bd (num y 12 28)
  have s := bef_succ y
  have l := lx_01 y
  have e := (bef_bd y (by omega) (by omega)).1
  have hy : wky (num y 12 28) = y := yr_of (by omega) (by omega) (by omega) (by omega)
  refine ⟨a.1, a.2, by omega, hy, ?_⟩
  unfold wkn; rw [hy]; unfold wks; rw [b]
  unfold fst mon; omega
/-- How many days ahead of the first such weekday; how many such there are; which one is asked for, from the beginning. -/
def ahd (f k : Int) : Int := (k - wd f) % 7
def cnt (size a : Int) : Int := (size - a - 1) / 7 + 1
def trn (N c : Int) : Int := if N < 0 then N + (c + 1) else N
/-- Is a month's day the one that is asked for? -/
def fitW (f size N k d : Int) : Prop := wd (f + d - 1) = k ∧ ((d - 1) / 7 + 1 = N ∨ -((size - d) / 7 + 1) = N)
/-- Is there one? -/
def hasW (f size N k : Int) : Prop := 1 ≤ trn N (cnt size (ahd f k)) ∧ trn N (cnt size (ahd f k)) ≤ cnt size (ahd f k)
/-- Which. -/
def nthW (f size N k : Int) : Int := f + ahd f k + (trn N (cnt size (ahd f k)) - 1) * 7
theorem ahd_bd (f k : Int) : 0 ≤ ahd f k ∧ ahd f k ≤ 6 := by unfold ahd; omega
theorem cnt_bd {size a : Int} (h : 28 ≤ size) (h' : size ≤ 31) (a0 : 0 ≤ a) (a6 : a ≤ 6) : 4 ≤ cnt size a ∧ cnt size a ≤ 5 := by unfold cnt; omega
theorem trn_pos {N c : Int} (h : ¬ N < 0) : trn N c = N := if_neg h
theorem trn_neg {N c : Int} (h : N < 0) : trn N c = N + (c + 1) := if_pos h
theorem nth_hit {f size N k d : Int} (h : 28 ≤ size) (h' : size ≤ 31) (d1 : 1 ≤ d) (d2 : d ≤ size) (F : fitW f size N k d) : hasW f size N k ∧ nthW f size N k = f + d - 1 := by
  unfold fitW wd at F
  unfold hasW nthW
  by_cases hN : N < 0
  · rw [trn_neg hN]; unfold cnt ahd wd; omega
  · rw [trn_pos hN]; unfold cnt ahd wd; omega
theorem nth_fit {f size N k : Int} (k1 : 1 ≤ k) (k7 : k ≤ 7) (H : hasW f size N k) : 1 ≤ nthW f size N k - f + 1 ∧ nthW f size N k - f + 1 ≤ size ∧ fitW f size N k (nthW f size N k - f + 1) := by
  unfold fitW wd
  unfold hasW at H
  unfold nthW
  by_cases hN : N < 0
  · rw [trn_neg hN] at H ⊢; unfold cnt ahd wd at *; omega
  · rw [trn_pos hN] at H ⊢; unfold cnt ahd wd at *; omega
/-- A day is found by its weekday, from either end of its month. -/
theorem fit_self (f size d : Int) : fitW f size ((d - 1) / 7 + 1) (wd (f + d - 1)) d ∧ fitW f size (-((size - d) / 7) - 1) (wd (f + d - 1)) d := by
  unfold fitW; omega
end Go.Proofs.YthdohcjingfpoaaGreatDoor.Cal
namespace Go.Proofs.YthdohcjingfpoaaGreatDoor
open Go.RowKit Cal

theorem mon_raw (n : Int) : n - ((n - 1) % 7 + 1) + 1 = mon n := by unfold mon; omega
theorem ret_pair {a b : Int} {v : Value} (h : a = b) : Ending.returned (.tuple #[.int .i64 a, v]) = .returned (.tuple #[.int .i64 b, v]) := by rw [h]
theorem of_jan (y : Int) (w : World) (hT : Tab w) (h1 : 1900 ≤ y) (h2 : y ≤ 2199) :
    Calls Tryz.prog 302 #[.agg #[.int .i64 y, .int .i64 1, .int .i64 1]] w fun e w' => e = .returned (.tuple #[.int .i64 (bef y + 1), .nilIface]) ∧ Below w.heap.size w w' := by
  have := of_yes y 1 1 w hT (ok_first h1 h2 (by omega) (by omega))
  rwa [num_first] at this
theorem of_four (y : Int) (w : World) (hT : Tab w) (h1 : 1900 ≤ y) (h2 : y ≤ 2199) :
    Calls Tryz.prog 302 #[.agg #[.int .i64 y, .int .i64 1, .int .i64 4]] w fun e w' => e = .returned (.tuple #[.int .i64 (bef y + 4), .nilIface]) ∧ Below w.heap.size w w' := by
  have := of_yes y 1 4 w hT (ok_four h1 h2)
  rwa [num_four] at this
end Go.Proofs.YthdohcjingfpoaaGreatDoor
namespace Go.Proofs.YthdohcjingfpoaaGreatDoor
open Go.RowKit Cal

/-- May a weekday be asked for so? -/
def isN (N k : Int) : Prop := 1 ≤ k ∧ k ≤ 7 ∧ ¬ N = 0 ∧ -5 ≤ N ∧ N ≤ 5
theorem weekday_wd (n : Int) (w : World) (h1 : 1 ≤ n) (h2 : n ≤ 109573) :
    Calls Tryz.prog 301 #[.int .i64 n] w fun e w' => e = .returned (.tuple #[.int .i64 (wd n), .nilIface]) ∧ w' = w := weekday_yes n w h1 h2
end Go.Proofs.YthdohcjingfpoaaGreatDoor
namespace Go.Proofs.YthdohcjingfpoaaGreatDoor
open Go.RowKit Cal

/-- The weekday that is none. -/
abbrev noNth : Value := .agg #[.int .i64 0, .int .i64 0]
/-- Two blocks for the results, made at the beginning, behind what a callee did. -/
theorem two_kept {W w1 : World} (t : TypeId) (hb : Below ((W.alloc (.cells #[.int .i64 0, .int .i64 0] t)).alloc (.cells #[.int .i64 0, .int .i64 0] t)).heap.size ((W.alloc (.cells #[.int .i64 0, .int .i64 0] t)).alloc (.cells #[.int .i64 0, .int .i64 0] t)) w1) :
    (w1.cell? ⟨W.heap.size, 0, none⟩ = some (.int .i64 0) ∧ w1.cell? ⟨W.heap.size, 1, none⟩ = some (.int .i64 0) ∧ w1.cell? ⟨W.heap.size + 1, 0, none⟩ = some (.int .i64 0) ∧ w1.cell? ⟨W.heap.size + 1, 1, none⟩ = some (.int .i64 0)) ∧
    (w1.frozen? ⟨W.heap.size, 0, none⟩ = false ∧ w1.frozen? ⟨W.heap.size, 1, none⟩ = false ∧ w1.frozen? ⟨W.heap.size + 1, 0, none⟩ = false ∧ w1.frozen? ⟨W.heap.size + 1, 1, none⟩ = false) ∧ W.heap.size < w1.heap.size ∧ W.heap.size + 1 < w1.heap.size := by
  obtain ⟨c, f⟩ := bcell hb
  refine ⟨⟨?_, ?_, ?_, ?_⟩, ⟨?_, ?_, ?_, ?_⟩, ?_, ?_⟩
  · rw [c _ _ (by simp; omega)]; simp
  · rw [c _ _ (by simp; omega)]; simp
  · rw [c _ _ (by simp)]; simp
  · rw [c _ _ (by simp)]; simp
  · rw [f _ _ (by simp; omega)]; simp
  · rw [f _ _ (by simp; omega)]; simp
  · rw [f _ _ (by simp)]; simp
  · rw [f _ _ (by simp)]; simp
  · have := hb.size; simp at this; omega
  · have := hb.size; simp at this; omega
theorem two_below {W w1 : World} (t : TypeId) (hb : Below ((W.alloc (.cells #[.int .i64 0, .int .i64 0] t)).alloc (.cells #[.int .i64 0, .int .i64 0] t)).heap.size ((W.alloc (.cells #[.int .i64 0, .int .i64 0] t)).alloc (.cells #[.int .i64 0, .int .i64 0] t)) w1) : Below W.heap.size W w1 :=
  (((Below.refl _ _).alloc (Nat.le_refl _) _).alloc (by simp) _).trans (hb.mono (by simp; omega))
theorem which_no (n : Int) (w : World) (h : ¬ (1 ≤ n ∧ n ≤ 109573)) :
    Calls Tryz.prog 289 #[.int .i64 n] w fun e w' => e = .returned (.tuple #[noNth, noNth, errRange]) ∧ Below w.heap.size w w' := by
  have H := Lib.hid h
  clear h
  go_enter Tryz.func289, Tryz.ntmps289
  go_wp2_with fail
  refine (date_no n _ H.out).mono ?_
  rintro e w1 ⟨rfl, hb⟩
  obtain ⟨⟨c1, c2, c3, c4⟩, ⟨f1, f2, f3, f4⟩, s1, s2⟩ := two_kept _ hb
  have B1 := two_below _ hb
  go_wp2
  refine bodyPost_ret (v := .tuple #[noNth, noNth, errRange]) (by simp [results, Tryz.results289, go_sem, s1, s2, c1, c2, c3, c4]) rfl ⟨rfl, ?_⟩
  repeat (first | exact B1 | refine Below.setCell ?_ (by first | omega | (simp <;> omega)) _ | refine Below.alloc ?_ (by first | omega | (simp <;> omega)) _)
set_option maxHeartbeats 2000000 in
theorem which_yes (n : Int) (w : World) (hT : Tab w) (h1 : 1 ≤ n) (h2 : n ≤ 109573) :
    Calls Tryz.prog 289 #[.int .i64 n] w fun e w' => e = .returned (.tuple #[.agg #[.int .i64 ((da n - 1) / 7 + 1), .int .i64 (wd n)], .agg #[.int .i64 (-((ml (yr n) (mo n) - da n) / 7) - 1), .int .i64 (wd n)], .nilIface]) ∧ Below w.heap.size w w' := by
  obtain ⟨y1, y2, m1, m2, d1, d2⟩ := date_ok h1 h2
  have lb := ml_bd (yr n) (mo n)
  have T0 := (hT.alloc (.cells #[.int .i64 0, .int .i64 0] 158)).alloc (.cells #[.int .i64 0, .int .i64 0] 158)
  go_enter Tryz.func289, Tryz.ntmps289
  go_wp2_with fail
  refine (date_yes n _ T0 h1 h2).mono ?_
  rintro e w1 ⟨rfl, hb⟩
  obtain ⟨⟨c1, c2, c3, c4⟩, ⟨f1, f2, f3, f4⟩, s1, s2⟩ := two_kept _ hb
  have B1 := two_below _ hb
  have T2 := (T0.below hb).alloc (.cells #[.int .i64 (yr n), .int .i64 (mo n), .int .i64 (da n)] 279)
  clear hb T0
  go_wp2_with fail
  refine (weekday_wd n _ h1 h2).mono ?_
  rintro e w2 ⟨rfl, hw⟩
  subst hw
  go_wp2_with fail
  refine (days_yes (yr n) (mo n) _ T2 y1 y2 m1 m2).mono ?_
  rintro e w3 ⟨rfl, hw⟩
  subst hw
  go_wp2_with fail
  go_quiet (fail)
  go_wp2
  refine bodyPost_ret (v := .tuple #[.agg #[.int .i64 ((da n - 1) / 7 + 1), .int .i64 (wd n)], .agg #[.int .i64 (-((ml (yr n) (mo n) - da n) / 7) - 1), .int .i64 (wd n)], .nilIface]) (by simp [results, Tryz.results289, go_sem, s1, s2, c1, c2, c3, c4]) rfl ⟨rfl, ?_⟩
  repeat (first | exact B1 | refine Below.setCell ?_ (by first | omega | (simp <;> omega)) _ | refine Below.alloc ?_ (by first | omega | (simp <;> omega)) _ | refine below_drewN ?_ _)
end Go.Proofs.YthdohcjingfpoaaGreatDoor
