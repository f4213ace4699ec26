/-
  What is proved here: what the smallest functions of package day answer (contracts over the translation), without the table of months.
-/
import Derived.Test.YtikpfeaidgeebaaDoorLow
namespace Go.Proofs.YtikpfeaidgeebaaDoor
open Go.RowKit Cal


theorem leapsTo_any (y : Int) (w : World) (h0 : 0 ≤ y) (h1 : y ≤ 100000) :
    Calls Tryd.prog 44 #[.int .i64 y] w fun e w' => e = .returned (.int .i64 (y / 4 - y / 100 + y / 400)) ∧ w' = w := by
  go_enter Tryd.func44, Tryd.ntmps44
  go_wp2
  go_ret
  exact ⟨rfl, rfl⟩
theorem bef_raw (y : Int) : (y - 1900) * 365 + ((y - 1) / 4 - (y - 1) / 100 + (y - 1) / 400 - (1899 / 4 - 1899 / 100 + 1899 / 400)) = bef y := by unfold bef; omega
theorem beforeYear_any (y : Int) (w : World) (h0 : 1 ≤ y) (h1 : y ≤ 10000) :
    Calls Tryd.prog 37 #[.int .i64 y] w fun e w' => e = .returned (.int .i64 (bef y)) ∧ w' = w := by
  go_enter Tryd.func37, Tryd.ntmps37
  go_wp2_with (go_at_call 44; refine (leapsTo_any _ _ (by omega) (by omega)).mono ?_; rintro e w' ⟨rfl, rfl⟩)
  go_ret
  exact ⟨ret_int (bef_raw y), rfl⟩
theorem last_any (w : World) :
    Calls Tryd.prog 45 #[] w fun e w' => e = .returned (.int .i64 109573) ∧ w' = w := by
  go_enter Tryd.func45, Tryd.ntmps45
  go_wp2_with (go_at_call 37; refine (beforeYear_any _ _ (by omega) (by omega)).mono ?_; rintro e w' ⟨rfl, rfl⟩)
  go_ret
  exact ⟨ret_int bef_last, rfl⟩
end Go.Proofs.YtikpfeaidgeebaaDoor
