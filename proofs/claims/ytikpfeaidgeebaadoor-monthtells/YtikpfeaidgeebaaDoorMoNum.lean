/-
  What is proved here: what package month's number answers (a contract over the translation).
-/
import Derived.Test.YtikpfeaidgeebaaDoorMoPure
import Derived.Test.YtikpfeaidgeebaaDoorShelf
namespace Go.Proofs.YtikpfeaidgeebaaDoor.Mo
open Go.RowKit Cal Txt

theorem number_nat (n : Nat) (w : World) (h : n < 100) :
    Calls Tryd.prog 40 #[.int .i64 n] w fun e w' => e = .returned (.string (tb (nu n))) ∧ w' = w := by
  have hl : (Lib.decDigits n).length ≤ 2 := dec_len n 1 (by omega)
  by_cases h9 : (n : Int) < 10
  · have H : Hid ([32] ++ Lib.decDigits n = nu n) := Lib.hid (by unfold nu; rw [if_pos (by omega)]; rfl)
    go_enter Tryd.func40, Tryd.ntmps40
    go_wp2_with (go_at_call 46; refine (Tryd.strconv_Itoa_small n h _).mono ?_; rintro e w' ⟨rfl, rfl⟩)
    go_ret
    exact ⟨by rw [← H.out]; exact congrArg (fun x => Ending.returned (.string x)) (ba_app [32] (Lib.decDigits n)), rfl⟩
  · have H : Hid (Lib.decDigits n = nu n) := Lib.hid (by unfold nu; rw [if_neg (by omega)])
    go_enter Tryd.func40, Tryd.ntmps40
    go_wp2_with (go_at_call 46; refine (Tryd.strconv_Itoa_small n h _).mono ?_; rintro e w' ⟨rfl, rfl⟩)
    go_ret
    exact ⟨ret_str H.out, rfl⟩
theorem number_any (n : Int) (w : World) (h0 : 0 ≤ n) (h : n < 100) :
    Calls Tryd.prog 40 #[.int .i64 n] w fun e w' => e = .returned (.string (tb (nu n.toNat))) ∧ w' = w := by
  obtain ⟨k, rfl⟩ := Int.eq_ofNat_of_zero_le h0
  rw [Int.toNat_natCast]
  exact number_nat k w (by omega)
end Go.Proofs.YtikpfeaidgeebaaDoor.Mo
