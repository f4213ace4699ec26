/-
  What is proved: chimelaw4.ClockDays returns true for every number, and leaves all that was there as it was. Conditions: none.
-/
import Derived.Test.YtnnpnalfkcngmabRows
import Derived.Test.YtnnpnalfkcngmabClk
import Derived.WalkKit
import Derived.ProofKit
import Derived.OpenShut
namespace Go.Proofs.Ytnnpnalfkcngmab.clockDays
open Go.ChangeShapes Go.WideShapes Go.ChangeAt Go.RowKit

theorem own : ownKnob Try.prog.godebug = none := by kernel_rfl
theorem walk (t : Int) (w : World) :
    Calls Try.prog 3 #[.int .i64 t] w fun e w' => e = .returned (.bool true) ∧ Grown w w' := by
  by_cases ht : 1 ≤ t ∧ t ≤ 157785119
  case neg =>
    have hq : ¬ (1 ≤ t ∧ t ≤ 157785119 ∧ 1 ≤ t + 1440 ∧ t + 1440 ≤ 157785119) := fun h => ht ⟨h.1, h.2.1⟩
    have HT : Hid (¬ (1 ≤ t ∧ t ≤ 157785119)) := ht
    have HQ : Hid (¬ (1 ≤ t ∧ t ≤ 157785119 ∧ 1 ≤ t + 1440 ∧ t + 1440 ≤ 157785119)) := hq
    clear ht hq
    go_enter Try.func3, Try.ntmps3
    go_wp2_with fail
    refine (add_yes 100 1440 _ (by omega) (by omega) (by omega) (by omega)).mono ?_
    rintro e w' ⟨rfl, rfl⟩
    go_wp2_with fail
    refine (split_no t _ HT.out).mono ?_
    rintro e w' ⟨rfl, rfl⟩
    go_wp2_with fail
    refine (add_no t 1440 _ HQ.out).mono ?_
    rintro e w' ⟨rfl, rfl⟩
    go_wp2
    go_ret
    exact ⟨rfl, Grown.refl _⟩
  obtain ⟨h1, h2⟩ := ht
  by_cases g2 : t + 1440 ≤ 157785119
  case neg =>
    have HQ : Hid (¬ (1 ≤ t ∧ t ≤ 157785119 ∧ 1 ≤ t + 1440 ∧ t + 1440 ≤ 157785119)) := fun h => g2 h.2.2.2
    go_enter Try.func3, Try.ntmps3
    go_wp2_with fail
    refine (add_yes 100 1440 _ (by omega) (by omega) (by omega) (by omega)).mono ?_
    rintro e w' ⟨rfl, rfl⟩
    go_wp2_with fail
    refine (split_yes t _ h1 h2).mono ?_
    rintro e w' ⟨rfl, rfl⟩
    go_wp2_with fail
    refine (add_no t 1440 _ HQ.out).mono ?_
    rintro e w' ⟨rfl, rfl⟩
    go_wp2
    go_ret
    exact ⟨rfl, Grown.refl _⟩
  have e1 : ((t + 1440) / 1440 + 1 == t / 1440 + 1 + 1) = true := by rw [beq_iff_eq]; omega
  have e2 : ((t + 1440) % 1440 == t % 1440) = true := by rw [beq_iff_eq]; omega
  go_enter Try.func3, Try.ntmps3
  go_wp2_with fail
  refine (add_yes 100 1440 _ (by omega) (by omega) (by omega) (by omega)).mono ?_
  rintro e w' ⟨rfl, rfl⟩
  go_wp2_with fail
  refine (split_yes t _ h1 h2).mono ?_
  rintro e w' ⟨rfl, rfl⟩
  go_wp2_with fail
  refine (add_yes t 1440 _ h1 h2 (by omega) g2).mono ?_
  rintro e w' ⟨rfl, rfl⟩
  go_wp2_with fail
  refine (split_yes (t + 1440) _ (by omega) g2).mono ?_
  rintro e w' ⟨rfl, rfl⟩
  go_wp2
  go_ret
  exact ⟨rfl, Grown.refl _⟩

set_option maxRecDepth 100000 in
theorem lifted (os : Os) (started : os.Started) (H : Type) (enc : TypeId × Value → H) :
    ReturnsInHanded {} Try.checked os 3 .any (Rows.clockDaysSpec.pre6 enc Try.prog Try.f3 Rows.clockDaysRow.domain false) (Rows.clockDaysSpec.post enc Try.prog Try.f3 false true false false) := by
  refine returnsInHanded_of_change (C := Try.checked) own started (by kernel_rfl) Try.func3
    (ChangeSpec.witness6 (enc := enc) (C := Try.checked) false ⟨#[], #[.int .i64 0], []⟩ 8 (by kernel_rfl) (by kernel_rfl) (by kernel_rfl) (by kernel_rfl)) ?_
  intro W base args ds gs before hval0 hW _ _
  have hval : ∀ (j : Nat) t v, Try.f3.params[j]? = some t → args[j]? = some v → Value.okWide Try.prog W .any base t v := hval0
  have hW' := hW
  obtain ⟨p, q, hA0, hV, rfl, hfz, hnd⟩ := hW
  have hA : DataW.TrodAll enc Try.prog W 0 (fun _ => true) true Try.f3.params.toList args.toList ds p := hA0
  rw [Try.params3] at hA hval
  obtain ⟨v0, vs0, d0, ds0, p0, q0, hargs, rfl, rfl, h0, r0⟩ := trodAll_cons hA
  obtain ⟨rfl, rfl, rfl⟩ := trodAll_nil r0
  obtain rfl : args = #[v0] := by cases args; simp_all
  obtain ⟨rfl, rfl⟩ := trodVars_none hV
  obtain ⟨a0, rfl, rfl, rfl, w0⟩ := open_int Try.underlying3 (hval 0 3 v0 rfl rfl) h0
  clear hA0 hval0
  simp only [List.append_nil] at hW'
  refine (walk a0 W).mono fun e W' ⟨he, hg⟩ => ?_
  subst he
  exact ⟨_, rfl, post_of_same (pa := []) (pv := []) hW' (fun _ _ _ => (trodAll_cons_mk (shut_bool Try.underlying4 _) trodAll_mk0)) (fun sp _ => (trodAll_cons_mk (shut_int Try.underlying3 w0) trodAll_mk0)) (fun _ _ => rfl) rfl
    (hg.frame _) hg.2.1 (ok_one (by kernel_rfl) rfl (okWide_bool_mk Try.underlying4 _))⟩

theorem over : Rows.clockDaysRow.holds Try.pinned (OpenSpec.ofChange Rows.clockDaysSpec) :=
  OpenClaim.holds_of_wide 3 Try.f3 rfl rfl rfl rfl rfl rfl rfl ⟨rfl, rfl, rfl, rfl, rfl⟩ rfl rfl rfl rfl rfl (by kernel_rfl) Try.func3 (by kernel_rfl)
    (of_decide_eq_true (by kernel_rfl)) (by unfold Func.isWrapper; first | (rw [if_pos (by decide +kernel)]; kernel_rfl) | (rw [if_neg (by decide +kernel)]; exact ⟨rfl, rfl⟩))
    (fun os started H enc _ => lifted os started H enc)
end Go.Proofs.Ytnnpnalfkcngmab.clockDays
namespace Go.Proofs.Ytnnpnalfkcngmab
theorem clockDays_holds : Rows.ClockDaysSaid := clockDays.over
#print axioms clockDays_holds
end Go.Proofs.Ytnnpnalfkcngmab
