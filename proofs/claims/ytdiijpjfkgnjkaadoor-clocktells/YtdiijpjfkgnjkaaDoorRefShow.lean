/-
  What is proved here: what the document's Time, two, ShowDate and Show answer (contracts over the translation).
-/
import Derived.Test.YtdiijpjfkgnjkaaDoorRefTwo
import Derived.Test.YtdiijpjfkgnjkaaDoorClkRound
namespace Go.Proofs.YtdiijpjfkgnjkaaDoor
open Go.RowKit Cal Txt

theorem refTime_any (t : Int) (w : World) :
    Calls Tryd.prog 21 #[.int .i64 t] w fun e w' => e = .returned (.bool (ist t)) ∧ w' = w := by
  by_cases h : 1 ≤ t
  all_goals
    go_enter Tryd.func21, Tryd.ntmps21
    go_wp2
    go_ret
    exact ⟨ret_bool (by unfold ist; rw [Bool.eq_iff_iff]; simp; omega), rfl⟩
theorem show_eq (a b c : List UInt8) : (⟨a.toArray⟩ : ByteArray) ++ ⟨#[32]⟩ ++ ⟨b.toArray⟩ ++ ⟨#[58]⟩ ++ ⟨c.toArray⟩ = ⟨(a ++ [32] ++ b ++ [58] ++ c).toArray⟩ := by
  apply ByteArray.ext; simp
set_option maxHeartbeats 1000000 in
theorem show_any (t : Int) (w : World) (h1 : 1 ≤ t) (h2 : t ≤ 157785119) :
    Calls Tryd.prog 22 #[.int .i64 t] w fun e w' => e = .returned (.string ⟨(txt t).toArray⟩) ∧ Below w.heap.size w w' := by
  have a1 : 1 ≤ t / 1440 + 1 := by omega
  have a2 : t / 1440 + 1 ≤ 109573 := by omega
  obtain ⟨o1, o2, o3, o4, o5, o6⟩ := date_ok a1 a2
  have m31 := ml_31 (yr (t / 1440 + 1)) (mo (t / 1440 + 1))
  have FIN : Hid (dtx (yr (t / 1440 + 1)) (mo (t / 1440 + 1)) (da (t / 1440 + 1)) ++ [32] ++ d2 (t % 1440 / 60).toNat ++ [58] ++ d2 (t % 60).toNat = txt t) := by
    show _ = tmt _ _ _ _ _
    unfold tmt dtx
    rw [show (yr (t / 1440 + 1) / 100).toNat = (yr (t / 1440 + 1)).toNat / 100 by omega]
  have e1 : (dtx (yr (t / 1440 + 1)) (mo (t / 1440 + 1)) (da (t / 1440 + 1))).length = 10 := rfl
  have e3 : (d2 (t % 1440 / 60).toNat).length = 2 := rfl
  have e4 : (d2 (t % 60).toNat).length = 2 := rfl
  go_enter Tryd.func22, Tryd.ntmps22
  go_wp2_with fail
  refine (refDate_yes (t / 1440 + 1) _ a1 a2).mono ?_
  rintro e w1 ⟨rfl, hb⟩
  go_wp2_with fail
  have B1 := hb.alloc hb.size (.cells #[.int .i64 (yr (t / 1440 + 1)), .int .i64 (mo (t / 1440 + 1)), .int .i64 (da (t / 1440 + 1))] 23)
  clear hb
  refine (showDate_any _ _ _ _ (by omega) (by omega) (by omega) (by omega) (by omega) (by omega)).mono ?_
  rintro e w2 ⟨rfl, hb⟩
  have B2 := B1.trans (hb.mono B1.size)
  clear hb B1
  go_wp2_with fail
  refine (refTwo_any _ _ (by omega) (by omega)).mono ?_
  rintro e w3 ⟨rfl, hb⟩
  have B3 := B2.trans (hb.mono B2.size)
  clear hb B2
  go_wp2_with fail
  refine (refTwo_any _ _ (by omega) (by omega)).mono ?_
  rintro e w4 ⟨rfl, hb⟩
  have B4 := B3.trans (hb.mono B3.size)
  clear hb B3
  go_wp2_with fail
  go_ret
  exact ⟨ret_ba ((show_eq _ _ _).trans (by rw [FIN.out])), B4⟩
end Go.Proofs.YtdiijpjfkgnjkaaDoor
