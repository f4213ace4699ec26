/-
  What is proved here: what clock.isDigit, number, twoDigits and hasForm answer (contracts over the translation).
-/
import Derived.Test.YtdiijpjfkgnjkacDoorClk
import Derived.Test.YtdiijpjfkgnjkacDoorShelf
import Derived.Test.YtdiijpjfkgnjkacDoorTxtTime
namespace Go.Proofs.YtdiijpjfkgnjkacDoor
open Go.RowKit Cal Txt

/-- Is a byte's number a digit's? -/
def dgI (c : Int) : Bool := decide (48 ≤ c ∧ c ≤ 57)
theorem dgI_eq (c : UInt8) : dgI (c.toNat : Int) = isDg c := by
  unfold dgI isDg; rw [Bool.eq_iff_iff]; simp; omega
theorem two_any (n : Nat) (w : World) (h : n < 100) :
    Calls Tryd.prog 75 #[.int .i64 n] w fun e w' => e = .returned (.string ⟨(d2 n).toArray⟩) ∧ w' = w := by
  have hl : (Lib.decDigits n).length ≤ 2 := dec_len n 1 (by omega)
  by_cases h9 : (n : Int) < 10
  · have H : Hid ([48] ++ Lib.decDigits n = d2 n) := d2_small (by omega)
    go_enter Tryd.func75, Tryd.ntmps75
    go_wp2_with (go_at_call 40; refine (Tryd.strconv_Itoa_small n h _).mono ?_; rintro e w' ⟨rfl, rfl⟩)
    go_ret
    exact ⟨by rw [← H.out]; exact congrArg (fun x => Ending.returned (.string x)) (ba_app [48] (Lib.decDigits n)), rfl⟩
  · have H : Hid (Lib.decDigits n = d2 n) := d2_big (by omega) h
    go_enter Tryd.func75, Tryd.ntmps75
    go_wp2_with (go_at_call 40; refine (Tryd.strconv_Itoa_small n h _).mono ?_; rintro e w' ⟨rfl, rfl⟩)
    go_ret
    exact ⟨ret_str H.out, rfl⟩
end Go.Proofs.YtdiijpjfkgnjkacDoor
