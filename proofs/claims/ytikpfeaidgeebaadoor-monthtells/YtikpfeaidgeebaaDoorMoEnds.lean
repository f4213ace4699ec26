/-
  What is proved here: what package month's ends answers (a contract over the translation); the table of months is asked as a premise.
-/
import Derived.Test.YtikpfeaidgeebaaDoorMoPure
import Derived.Test.YtikpfeaidgeebaaDoorDayOf
namespace Go.Proofs.YtikpfeaidgeebaaDoor.Mo
open Go.RowKit Cal Txt

/-- A month's first day and its last one. -/
def fst (y m : Int) : Int := num y m 1
def lst (y m : Int) : Int := num y m 1 + ml y m - 1
/-- Is it a month? -/
def isM (y m : Int) : Prop := 1900 ≤ y ∧ y ≤ 2199 ∧ 1 ≤ m ∧ m ≤ 12
theorem ok_one {y m : Int} (h : isM y m) : okD y m 1 := ⟨h.1, h.2.1, h.2.2.1, h.2.2.2, by omega, by have := ml_bd y m; omega⟩
theorem ends_bd {y m : Int} (h : isM y m) : 1 ≤ fst y m ∧ lst y m ≤ 109573 ∧ fst y m + 27 ≤ lst y m ∧ lst y m ≤ fst y m + 30 := by
  have a := num_bd (ok_one h)
  have b := ml_bd y m
  have c := num_bd (y := y) (m := m) (d := ml y m) ⟨h.1, h.2.1, h.2.2.1, h.2.2.2, by omega, by omega⟩
  have e : num y m (ml y m) = num y m 1 + ml y m - 1 := by unfold num; omega
  unfold fst lst
  omega
theorem ends_yes (y m : Int) (w : World) (hT : Tab w) (h : isM y m) :
    Calls Tryd.prog 23 #[.int .i64 y, .int .i64 m] w fun e w' => e = .returned (.tuple #[.int .i64 (fst y m), .int .i64 (lst y m), .nilIface]) ∧ Below w.heap.size w w' := by
  have OK := Lib.hid (ok_one h)
  have nb := num_bd OK.out
  have mb := ml_bd y m
  obtain ⟨a1, a2, h1, h2⟩ := h
  go_enter Tryd.func23, Tryd.ntmps23
  go_wp2_with (go_at_call 16; refine (days_yes _ _ _ hT a1 a2 h1 h2).mono ?_; rintro e w' ⟨rfl, rfl⟩)
  refine (of_yes y m 1 _ hT OK.out).mono ?_
  rintro e w1 ⟨rfl, hb⟩
  go_wp2
  go_ret3
  exact ⟨rfl, hb⟩
theorem ends_no (y m : Int) (w : World) (h : ¬ isM y m) :
    Calls Tryd.prog 23 #[.int .i64 y, .int .i64 m] w fun e w' => e = .returned (.tuple #[.int .i64 0, .int .i64 0, errRange]) ∧ Below w.heap.size w w' := by
  have N := Lib.hid h
  clear h
  go_enter Tryd.func23, Tryd.ntmps23
  go_wp2_with (go_at_call 16; refine (days_no _ _ _ N.out).mono ?_; rintro e w' ⟨rfl, rfl⟩)
  go_ret3
  exact ⟨rfl, Below.refl _ _⟩
end Go.Proofs.YtikpfeaidgeebaaDoor.Mo
