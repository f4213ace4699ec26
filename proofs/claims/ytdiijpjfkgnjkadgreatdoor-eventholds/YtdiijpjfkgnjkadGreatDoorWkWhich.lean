/-
  What is proved here: what week.Which answers, for every input (contracts over the translation); the table of months is asked as a premise.
-/
import Derived.Test.YtdiijpjfkgnjkadGreatDoorWkNth
namespace Go.Proofs.YtdiijpjfkgnjkadGreatDoor
open Go.RowKit Cal

/-- The weekday that is none. -/
abbrev noNth : Value := .agg #[.int .i64 0, .int .i64 0]
/-- Two blocks for the results, made at the beginning, behind what a callee did. -/
theorem two_kept {W w1 : World} (t : TypeId) (hb : Below ((W.alloc (.cells #[.int .i64 0, .int .i64 0] t)).alloc (.cells #[.int .i64 0, .int .i64 0] t)).heap.size ((W.alloc (.cells #[.int .i64 0, .int .i64 0] t)).alloc (.cells #[.int .i64 0, .int .i64 0] t)) w1) :
    (w1.cell? ⟨W.heap.size, 0, none⟩ = some (.int .i64 0) ∧ w1.cell? ⟨W.heap.size, 1, none⟩ = some (.int .i64 0) ∧ w1.cell? ⟨W.heap.size + 1, 0, none⟩ = some (.int .i64 0) ∧ w1.cell? ⟨W.heap.size + 1, 1, none⟩ = some (.int .i64 0)) ∧
    (w1.frozen? ⟨W.heap.size, 0, none⟩ = false ∧ w1.frozen? ⟨W.heap.size, 1, none⟩ = false ∧ w1.frozen? ⟨W.heap.size + 1, 0, none⟩ = false ∧ w1.frozen? ⟨W.heap.size + 1, 1, none⟩ = false) ∧ W.heap.size < w1.heap.size ∧ W.heap.size + 1 < w1.heap.size := by
  obtain ⟨c, f⟩ := bcell hb
  refine ⟨⟨?_, ?_, ?_, ?_⟩, ⟨?_, ?_, ?_, ?_⟩, ?_, ?_⟩
  · rw [c _ _ (by simp; omega)]; simp
  · rw [c _ _ (by simp; omega)]; simp
  · rw [c _ _ (by simp)]; simp
  · rw [c _ _ (by simp)]; simp
  · rw [f _ _ (by simp; omega)]; simp
  · rw [f _ _ (by simp; omega)]; simp
  · rw [f _ _ (by simp)]; simp
  · rw [f _ _ (by simp)]; simp
  · have := hb.size; simp at this; omega
  · have := hb.size; simp at this; omega
theorem two_below {W w1 : World} (t : TypeId) (hb : Below ((W.alloc (.cells #[.int .i64 0, .int .i64 0] t)).alloc (.cells #[.int .i64 0, .int .i64 0] t)).heap.size ((W.alloc (.cells #[.int .i64 0, .int .i64 0] t)).alloc (.cells #[.int .i64 0, .int .i64 0] t)) w1) : Below W.heap.size W w1 :=
  (((Below.refl _ _).alloc (Nat.le_refl _) _).alloc (by simp) _).trans (hb.mono (by simp; omega))
theorem which_no (n : Int) (w : World) (h : ¬ (1 ≤ n ∧ n ≤ 109573)) :
    Calls Tryz.prog 140 #[.int .i64 n] w fun e w' => e = .returned (.tuple #[noNth, noNth, errRange]) ∧ Below w.heap.size w w' := by
  have H := Lib.hid h
  clear h
  go_enter Tryz.func140, Tryz.ntmps140
  go_wp2_with fail
  refine (date_no n _ H.out).mono ?_
  rintro e w1 ⟨rfl, hb⟩
  obtain ⟨⟨c1, c2, c3, c4⟩, ⟨f1, f2, f3, f4⟩, s1, s2⟩ := two_kept _ hb
  have B1 := two_below _ hb
  go_wp2
  refine bodyPost_ret (v := .tuple #[noNth, noNth, errRange]) (by simp [results, Tryz.results140, go_sem, s1, s2, c1, c2, c3, c4]) rfl ⟨rfl, ?_⟩
  repeat (first | exact B1 | refine Below.setCell ?_ (by first | omega | (simp <;> omega)) _ | refine Below.alloc ?_ (by first | omega | (simp <;> omega)) _)
set_option maxHeartbeats 2000000 in
theorem which_yes (n : Int) (w : World) (hT : Tab w) (h1 : 1 ≤ n) (h2 : n ≤ 109573) :
    Calls Tryz.prog 140 #[.int .i64 n] w fun e w' => e = .returned (.tuple #[.agg #[.int .i64 ((da n - 1) / 7 + 1), .int .i64 (wd n)], .agg #[.int .i64 (-((ml (yr n) (mo n) - da n) / 7) - 1), .int .i64 (wd n)], .nilIface]) ∧ Below w.heap.size w w' := by
  obtain ⟨y1, y2, m1, m2, d1, d2⟩ := date_ok h1 h2
  have lb := ml_bd (yr n) (mo n)
  have T0 := (hT.alloc (.cells #[.int .i64 0, .int .i64 0] 69)).alloc (.cells #[.int .i64 0, .int .i64 0] 69)
  go_enter Tryz.func140, Tryz.ntmps140
  go_wp2_with fail
  refine (date_yes n _ T0 h1 h2).mono ?_
  rintro e w1 ⟨rfl, hb⟩
  obtain ⟨⟨c1, c2, c3, c4⟩, ⟨f1, f2, f3, f4⟩, s1, s2⟩ := two_kept _ hb
  have B1 := two_below _ hb
  have T2 := (T0.below hb).alloc (.cells #[.int .i64 (yr n), .int .i64 (mo n), .int .i64 (da n)] 109)
  clear hb T0
  go_wp2_with fail
  refine (weekday_wd n _ h1 h2).mono ?_
  rintro e w2 ⟨rfl, hw⟩
  subst hw
  go_wp2_with fail
  refine (days_yes (yr n) (mo n) _ T2 y1 y2 m1 m2).mono ?_
  rintro e w3 ⟨rfl, hw⟩
  subst hw
  go_wp2_with fail
  go_quiet (fail)
  go_wp2
  refine bodyPost_ret (v := .tuple #[.agg #[.int .i64 ((da n - 1) / 7 + 1), .int .i64 (wd n)], .agg #[.int .i64 (-((ml (yr n) (mo n) - da n) / 7) - 1), .int .i64 (wd n)], .nilIface]) (by simp [results, Tryz.results140, go_sem, s1, s2, c1, c2, c3, c4]) rfl ⟨rfl, ?_⟩
  repeat (first | exact B1 | refine Below.setCell ?_ (by first | omega | (simp <;> omega)) _ | refine Below.alloc ?_ (by first | omega | (simp <;> omega)) _ | refine below_drewN ?_ _)
end Go.Proofs.YtdiijpjfkgnjkadGreatDoor
