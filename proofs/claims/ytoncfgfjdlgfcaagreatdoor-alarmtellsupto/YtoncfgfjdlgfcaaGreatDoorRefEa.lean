/-
  What is proved here: what the document's Time, Alarm and times answer (contracts over the translation).
-/
import Derived.Test.YtoncfgfjdlgfcaaGreatDoorBO
import Derived.BigQuiet
namespace Go.Proofs.YtoncfgfjdlgfcaaGreatDoor
open Go.RowKit Cal Txt

theorem refTime_any (t : Int) (w : World) :
    Calls Tryz.prog 16 #[.int .i64 t] w fun e w' => e = .returned (.bool (ist t)) ∧ w' = w := by
  by_cases h : 1 ≤ t
  all_goals
    go_enter Tryz.func16, Tryz.ntmps16
    go_wp2
    go_ret
    exact ⟨ret_bool (by unfold ist; rw [Bool.eq_iff_iff]; simp; omega), rfl⟩
set_option maxHeartbeats 1000000 in
theorem refAlarm_any (o : Int) (b : Bool) (r t : Int) (w : World) :
    Calls Tryz.prog 54 #[.agg #[.int .i64 o, .bool b, .int .i64 r, .int .i64 t]] w fun e w' => e = .returned (.int .i64 (alF (o, b, r, t))) ∧ Below w.heap.size w w' := by
  have HB := Lib.hid ((Below.refl w.heap.size w).alloc (Nat.le_refl _) (.cells #[.int .i64 o, .bool b, .int .i64 r, .int .i64 t] 115))
  have N0 : Hid (((-100000 ≤ o ∧ o ≤ 100000) ∧ (0 ≤ r ∧ r ≤ 5) ∧ ((r = 0 ∧ t = 0) ∨ (¬ r = 0 ∧ 1 ≤ t ∧ t ≤ 10000))) → alF (o, b, r, t) = 0) := Lib.hid (fun h => if_pos h)
  have N1 : Hid (¬ ((-100000 ≤ o ∧ o ≤ 100000) ∧ (0 ≤ r ∧ r ≤ 5) ∧ ((r = 0 ∧ t = 0) ∨ (¬ r = 0 ∧ 1 ≤ t ∧ t ≤ 10000))) → alF (o, b, r, t) = 1) := Lib.hid (fun h => if_neg h)
  generalize alF (o, b, r, t) = F at N0 N1 ⊢
  go_enter Tryz.func54, Tryz.ntmps54
  by_cases h1 : o < -100000
  · have E := Lib.hid (N1.out (by omega))
    go_wp2
    go_ret
    exact ⟨ret_int E.out.symm, HB.out⟩
  by_cases h2 : 100000 < o
  · have E := Lib.hid (N1.out (by omega))
    go_wp2
    go_ret
    exact ⟨ret_int E.out.symm, HB.out⟩
  by_cases h3 : r < 0
  · have E := Lib.hid (N1.out (by omega))
    go_wp2
    go_ret
    exact ⟨ret_int E.out.symm, HB.out⟩
  by_cases h4 : 5 < r
  · have E := Lib.hid (N1.out (by omega))
    go_wp2
    go_ret
    exact ⟨ret_int E.out.symm, HB.out⟩
  by_cases h5 : 0 < r
  · have e0 : (r == 0) = false := by simp; omega
    by_cases h6 : t < 1
    · have E := Lib.hid (N1.out (by omega))
      go_wp2
      go_ret
      exact ⟨ret_int E.out.symm, HB.out⟩
    by_cases h7 : 10000 < t
    · have E := Lib.hid (N1.out (by omega))
      go_wp2
      go_ret
      exact ⟨ret_int E.out.symm, HB.out⟩
    have E := Lib.hid (N0.out (by omega))
    go_wp2
    go_ret
    exact ⟨ret_int E.out.symm, HB.out⟩
  · obtain rfl : r = 0 := by omega
    rcases h6 : (t != 0) with _ | _
    · have E := Lib.hid (N0.out (by simp at h6; omega))
      go_wp2
      go_ret
      exact ⟨ret_int E.out.symm, HB.out⟩
    · have E := Lib.hid (N1.out (by simp at h6; omega))
      go_wp2
      go_ret
      exact ⟨ret_int E.out.symm, HB.out⟩
set_option maxHeartbeats 1000000 in
theorem refTimes_any (v : Value) (l : List Int) (w : World) (hv : Ints w v l) (hl : l.length ≤ 1000000) :
    Calls Tryz.prog 52 #[v] w fun e w' => e = .returned (.bool (l.all ist)) ∧ w' = w := by
  obtain ⟨a, cap, rfl, hc⟩ := hv
  have HC := Lib.hid hc
  clear hc
  go_enter Tryz.func52, Tryz.ntmps52
  go_wp2
  go_loop [3] (fun i => ∃ k : Nat, k ≤ l.length ∧ i = .int .i64 k ∧ (l.take k).all ist = true) (fun i => l.length - (intOf i).toNat)
  case atStart => exact ⟨0, Nat.zero_le _, rfl, rfl⟩
  case round =>
    obtain ⟨k, hk, rfl, hF⟩ := hrel
    have HF := Lib.hid hF
    clear hF
    by_cases hlt : k < l.length
    · rcases HC.out with hc | ⟨b, off, rfl, hc⟩
      · rw [hc] at hlt; simp at hlt
      have ck := hc k hlt
      obtain ⟨x, hx⟩ : ∃ x, x = l.getD k 0 := ⟨_, rfl⟩
      rw [← hx] at ck
      have HX := Lib.hid hx
      clear hx hc
      rcases hp : ist x with _ | _
      · have N0 : Hid (l.all ist = false) := Lib.hid (all_not ist l k 0 hlt (by rw [← HX.out]; exact hp))
        go_wp2_with (go_at_call 16; refine (refTime_any _ _).mono ?_; rintro e w' ⟨rfl, rfl⟩; rw [hp])
        go_ret
        exact ⟨ret_bool N0.out.symm, rfl⟩
      · have N1 : Hid ((l.take (k + 1)).all ist = true) := Lib.hid (all_take ist l k 0 hlt HF.out (by rw [← HX.out]; exact hp))
        go_wp2_with (go_at_call 16; refine (refTime_any _ _).mono ?_; rintro e w' ⟨rfl, rfl⟩; rw [hp])
        go_round
        case rel => exact ⟨k + 1, by omega, by go_num, N1.out⟩
        case measure => simp [intOf]; omega
    · have N1 : Hid (l.all ist = true) := Lib.hid (all_end ist l k hlt HF.out)
      go_wp2
      go_ret
      exact ⟨ret_bool N1.out.symm, rfl⟩
end Go.Proofs.YtoncfgfjdlgfcaaGreatDoor
