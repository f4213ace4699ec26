/-
  What is proved here: what clock.isDigit, number, twoDigits and hasForm answer (contracts over the translation).
-/
import Derived.Test.YtdiijpjfkgnjkaaDoorClk
import Derived.Test.YtdiijpjfkgnjkaaDoorShelf
import Derived.Test.YtdiijpjfkgnjkaaDoorTxtTime
namespace Go.Proofs.YtdiijpjfkgnjkaaDoor
open Go.RowKit Cal Txt

/-- Is a byte's number a digit's? -/
def dgI (c : Int) : Bool := decide (48 ≤ c ∧ c ≤ 57)
theorem dgI_eq (c : UInt8) : dgI (c.toNat : Int) = isDg c := by
  unfold dgI isDg; rw [Bool.eq_iff_iff]; simp; omega
theorem isDigit_any (c : Int) (w : World) :
    Calls Tryd.prog 54 #[.int .u8 c] w fun e w' => e = .returned (.bool (dgI c)) ∧ w' = w := by
  by_cases h : 48 ≤ c
  all_goals
    go_enter Tryd.func54, Tryd.ntmps54
    go_wp2
    go_ret
    exact ⟨ret_bool (by unfold dgI; rw [Bool.eq_iff_iff]; simp; omega), rfl⟩
set_option maxHeartbeats 1000000 in
theorem number_any (s : ByteArray) (w : World) (hd : ∀ c ∈ s.data.toList, isDg c = true) (hs : s.size ≤ 9) :
    Calls Tryd.prog 46 #[.string s] w fun e w' => e = .returned (.int .i64 (val s.data.toList)) ∧ w' = w := by
  go_enter Tryd.func46, Tryd.ntmps46
  go_wp2
  go_loop [3, 7] (fun n i => ∃ k : Nat, k ≤ s.size ∧ i = .int .i64 k ∧ n = .int .i64 (val (s.data.toList.take k))) (fun _ i => s.size - (intOf i).toNat)
  case atStart => exact ⟨0, Nat.zero_le _, rfl, rfl⟩
  case round =>
    obtain ⟨k, hk, rfl, rfl⟩ := hrel
    have vb := val_le9 (s.data.toList.take k) (fun c hc => hd c (List.mem_of_mem_take hc)) (by have := List.length_take_le k s.data.toList; omega)
    by_cases hlt : k < s.size
    · have hc := isDg_iff.1 (hd _ (mem_at s k hlt))
      have c1 : (48 : Int) ≤ s[k].toNat := by omega
      have c2 : (s[k].toNat : Int) ≤ 57 := by omega
      have HS : Hid (val (s.data.toList.take (k + 1)) = val (s.data.toList.take k) * 10 + (s[k].toNat - 48)) := by rw [take_snoc s k hlt]; exact val_snoc _ _
      clear hc
      go_wp2
      go_round
      case rel => exact ⟨k + 1, by omega, by go_num, by rw [HS.out]; go_num⟩
      case measure => simp [intOf]; omega
    · go_wp2
      go_ret
      exact ⟨ret_int (by rw [List.take_of_length_le (by simp; omega)]), rfl⟩
theorem two_any (n : Nat) (w : World) (h : n < 100) :
    Calls Tryd.prog 42 #[.int .i64 n] w fun e w' => e = .returned (.string ⟨(d2 n).toArray⟩) ∧ w' = w := by
  have hl : (Lib.decDigits n).length ≤ 2 := dec_len n 1 (by omega)
  by_cases h9 : (n : Int) < 10
  · have H : Hid ([48] ++ Lib.decDigits n = d2 n) := d2_small (by omega)
    go_enter Tryd.func42, Tryd.ntmps42
    go_wp2_with (go_at_call 41; refine (Tryd.strconv_Itoa_small n h _).mono ?_; rintro e w' ⟨rfl, rfl⟩)
    go_ret
    exact ⟨by rw [← H.out]; exact congrArg (fun x => Ending.returned (.string x)) (ba_app [48] (Lib.decDigits n)), rfl⟩
  · have H : Hid (Lib.decDigits n = d2 n) := d2_big (by omega) h
    go_enter Tryd.func42, Tryd.ntmps42
    go_wp2_with (go_at_call 41; refine (Tryd.strconv_Itoa_small n h _).mono ?_; rintro e w' ⟨rfl, rfl⟩)
    go_ret
    exact ⟨ret_str H.out, rfl⟩
end Go.Proofs.YtdiijpjfkgnjkaaDoor
