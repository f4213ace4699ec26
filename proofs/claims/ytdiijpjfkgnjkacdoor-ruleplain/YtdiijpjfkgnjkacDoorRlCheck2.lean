/-
  What is proved here: what package rule's Check answers of any rule (contracts over the translation).
-/
import Derived.Test.YtdiijpjfkgnjkacDoorRlGoes
namespace Go.Proofs.YtdiijpjfkgnjkacDoor
open Go.RowKit Cal Txt

theorem rf_1 {r : Rl} (h : ok1 r = false) : rf r = 1 := by unfold rf; rw [if_pos h]
theorem rf_3 {r : Rl} (h1 : ok1 r = true) (h : ¬ r.count = 0 ∧ ¬ r.till = 0) : rf r = 3 := by unfold rf; rw [if_neg (by rw [h1]; decide), if_pos h]
theorem rf_4 {r : Rl} (h1 : ok1 r = true) (h : ¬ (¬ r.count = 0 ∧ ¬ r.till = 0)) (h2 : ok2 r = false) : rf r = 4 := by unfold rf; rw [if_neg (by rw [h1]; decide), if_neg h, if_pos h2]
theorem rf_5 {r : Rl} (h1 : ok1 r = true) (h : ¬ (¬ r.count = 0 ∧ ¬ r.till = 0)) (h2 : ok2 r = true) (h3 : itemsB r = false) : rf r = 1 := by
  rw [itemsB_eq] at h3
  unfold rf; rw [if_neg (by rw [h1]; decide), if_neg h, if_neg (by rw [h2]; decide)]
  rcases e : ok3 r with _ | _
  · rw [if_pos rfl]
  · rw [e] at h3; simp at h3
    rw [if_neg (by decide), if_pos h3]
theorem rf_7 {r : Rl} (h1 : ok1 r = true) (h : ¬ (¬ r.count = 0 ∧ ¬ r.till = 0)) (h2 : ok2 r = true) (h3 : itemsB r = true) (h4 : ok4 r = false) : rf r = 7 := by
  rw [itemsB_eq] at h3; simp at h3
  unfold rf; rw [if_neg (by rw [h1]; decide), if_neg h, if_neg (by rw [h2]; decide), if_neg (by rw [h3.1]; decide), if_neg (by rw [h3.2]; decide), if_pos h4]
theorem rf_8 {r : Rl} (h1 : ok1 r = true) (h : ¬ (¬ r.count = 0 ∧ ¬ r.till = 0)) (h2 : ok2 r = true) (h3 : itemsB r = true) (h4 : ok4 r = true) (h5 : oddB r = true) : rf r = 3 := by
  rw [itemsB_eq] at h3; simp at h3
  unfold rf; rw [if_neg (by rw [h1]; decide), if_neg h, if_neg (by rw [h2]; decide), if_neg (by rw [h3.1]; decide), if_neg (by rw [h3.2]; decide), if_neg (by rw [h4]; decide), if_pos h5]
theorem rf_0 {r : Rl} (h1 : ok1 r = true) (h : ¬ (¬ r.count = 0 ∧ ¬ r.till = 0)) (h2 : ok2 r = true) (h3 : itemsB r = true) (h4 : ok4 r = true) (h5 : oddB r = false) : rf r = 0 := by
  rw [itemsB_eq] at h3; simp at h3
  unfold rf; rw [if_neg (by rw [h1]; decide), if_neg h, if_neg (by rw [h2]; decide), if_neg (by rw [h3.1]; decide), if_neg (by rw [h3.2]; decide), if_neg (by rw [h4]; decide), if_neg (by rw [h5]; decide)]
theorem ret_fault {v : Value} {k : Int} (h : v = fault k) : Ending.returned v = .returned (fault k) := by rw [h]
theorem both_ways (c u : Int) : ((c != 0) = false ∧ ¬ (¬ c = 0 ∧ ¬ u = 0)) ∨ ((c != 0) = true ∧ (u != 0) = false ∧ ¬ (¬ c = 0 ∧ ¬ u = 0)) ∨ ((c != 0) = true ∧ (u != 0) = true ∧ (¬ c = 0 ∧ ¬ u = 0)) := by
  by_cases hc : c = 0
  · exact Or.inl ⟨by simp [hc], fun k => k.1 hc⟩
  · by_cases hu : u = 0
    · exact Or.inr (Or.inl ⟨by simp [hc], by simp [hu], fun k => k.2 hu⟩)
    · exact Or.inr (Or.inr ⟨by simp [hc], by simp [hu], hc, hu⟩)
set_option maxRecDepth 100000 in
set_option maxHeartbeats 4000000 in
theorem check_walk (r : Rl) (am ad aw ap : Option Addr) (cm cd cw cp : Nat) (w : World) (hm : Ints w (.slice am r.months.length cm) r.months) (hd : Ints w (.slice ad r.days.length cd) r.days) (hw : Nths w (.slice aw r.weeks.length cw) r.weeks) (hp : Ints w (.slice ap r.pick.length cp) r.pick) :
    Calls Tryd.prog 20 #[.agg #[.int .i64 r.freq, .int .i64 r.every, .int .i64 r.count, .int .i64 r.till, .slice am r.months.length cm, .slice ad r.days.length cd, .slice aw r.weeks.length cw, .slice ap r.pick.length cp]] w fun e w' => e = .returned (fault (rf r)) ∧ Below w.heap.size w w' := by
  have B0 : Below w.heap.size w (w.alloc (.cells #[.int .i64 r.freq, .int .i64 r.every, .int .i64 r.count, .int .i64 r.till, .slice am r.months.length cm, .slice ad r.days.length cd, .slice aw r.weeks.length cw, .slice ap r.pick.length cp] 30)) := (Below.refl _ _).alloc (Nat.le_refl _) _
  have HR := Lib.hid (RBox.new w r.freq r.every r.count r.till (.slice am r.months.length cm) (.slice ad r.days.length cd) (.slice aw r.weeks.length cw) (.slice ap r.pick.length cp) 30)
  have HB := Lib.hid B0
  have HM := Lib.hid (hm.on B0)
  have HD := Lib.hid (hd.on B0)
  have HW := Lib.hid (hw.on B0)
  have HP := Lib.hid (hp.on B0)
  clear B0 hm hd hw hp
  go_enter Tryd.func20, Tryd.ntmps20
  go_wp2_with fail
  refine (hasNumbers_any r _ _ _ _ _ _ _ _ _).mono ?_
  rintro e w1 ⟨rfl, hx⟩
  have HR1 := Lib.hid (HR.out.on hx)
  have HB1 := Lib.hid (HB.out.trans (hx.mono HB.out.size))
  have HM1 := Lib.hid (HM.out.on hx)
  have HD1 := Lib.hid (HD.out.on hx)
  have HW1 := Lib.hid (HW.out.on hx)
  have HP1 := Lib.hid (HP.out.on hx)
  clear hx HR HB HM HD HW HP
  rcases h1 : ok1 r with _ | _
  · have N := Lib.hid (rf_1 h1)
    go_wp2
    go_ret
    exact ⟨ret_fault (by rw [N.out]; rfl), HB1.out⟩
  have O1 := Lib.hid h1
  obtain ⟨R0, R1, R2, R3, R4, R5, R6, R7⟩ := id HR1.out
  rcases both_ways r.count r.till with ⟨b1, b2⟩ | ⟨b1, b2, b3⟩ | ⟨b1, b2, b3⟩
  case inr.inr =>
    have N := Lib.hid (rf_3 O1.out b3)
    clear b3
    go_wp2
    go_ret
    exact ⟨ret_fault (by rw [N.out]; rfl), HB1.out⟩
  all_goals
    first
      | have C2 := Lib.hid b3
      | have C2 := Lib.hid b2
    first
      | clear b3
      | clear b2
    go_wp2_with fail
    clear R0 R1 R2 R3 R4 R5 R6 R7
    refine (isTooLong_any r _ _ _ _ _ _ _ _ _).mono ?_
    rintro e w2 ⟨rfl, hx⟩
    have HR2 := Lib.hid (HR1.out.on hx)
    have HB2 := Lib.hid (HB1.out.trans (hx.mono HB1.out.size))
    have HM2 := Lib.hid (HM1.out.on hx)
    have HD2 := Lib.hid (HD1.out.on hx)
    have HW2 := Lib.hid (HW1.out.on hx)
    have HP2 := Lib.hid (HP1.out.on hx)
    clear hx HR1 HB1 HM1 HD1 HW1 HP1
    rcases h2 : ok2 r with _ | _
    · have N := Lib.hid (rf_4 O1.out C2.out h2)
      go_wp2
      go_ret
      exact ⟨ret_fault (by rw [N.out]; rfl), HB2.out⟩
    have O2 := Lib.hid h2
    obtain ⟨R0, R1, R2, R3, R4, R5, R6, R7⟩ := id HR2.out
    go_wp2_with fail
    clear R0 R1 R2 R3 R4 R5 R6 R7
    refine (hasItems_any r _ _ _ _ _ _ _ _ _ HM2.out HD2.out HW2.out HP2.out O2.out).mono ?_
    rintro e w3 ⟨rfl, hx⟩
    have HR3 := Lib.hid (HR2.out.on hx)
    have HB3 := Lib.hid (HB2.out.trans (hx.mono HB2.out.size))
    have HM3 := Lib.hid (HM2.out.on hx)
    have HD3 := Lib.hid (HD2.out.on hx)
    have HW3 := Lib.hid (HW2.out.on hx)
    have HP3 := Lib.hid (HP2.out.on hx)
    clear hx HR2 HB2 HM2 HD2 HW2 HP2
    rcases h3 : itemsB r with _ | _
    · have N := Lib.hid (rf_5 O1.out C2.out O2.out h3)
      go_wp2
      go_ret
      exact ⟨ret_fault (by rw [N.out]; rfl), HB3.out⟩
    have O3 := Lib.hid h3
    obtain ⟨R0, R1, R2, R3, R4, R5, R6, R7⟩ := id HR3.out
    go_wp2_with fail
    clear R0 R1 R2 R3 R4 R5 R6 R7
    refine (isRising_any r _ _ _ _ _ _ _ _ _ HM3.out HD3.out HW3.out HP3.out O2.out).mono ?_
    rintro e w4 ⟨rfl, hx⟩
    have HR4 := Lib.hid (HR3.out.on hx)
    have HB4 := Lib.hid (HB3.out.trans (hx.mono HB3.out.size))
    have HW4 := Lib.hid (HW3.out.on hx)
    clear hx HR3 HB3 HM3 HD3 HW3 HP3
    rcases h4 : ok4 r with _ | _
    · have N := Lib.hid (rf_7 O1.out C2.out O2.out O3.out h4)
      go_wp2
      go_ret
      exact ⟨ret_fault (by rw [N.out]; rfl), HB4.out⟩
    have O4 := Lib.hid h4
    obtain ⟨R0, R1, R2, R3, R4, R5, R6, R7⟩ := id HR4.out
    go_wp2_with fail
    clear R0 R1 R2 R3 R4 R5 R6 R7
    refine (goes_any r _ _ _ _ _ _ _ _ _ HW4.out O2.out (of_decide_eq_true O1.out).1.1 (of_decide_eq_true O1.out).1.2).mono ?_
    rintro e w5 ⟨rfl, hx⟩
    have HB5 := Lib.hid (HB4.out.trans (hx.mono HB4.out.size))
    clear hx HR4 HB4 HW4
    rcases h5 : oddB r with _ | _
    · have N := Lib.hid (rf_0 O1.out C2.out O2.out O3.out O4.out h5)
      go_wp2
      go_ret
      exact ⟨ret_fault (by rw [N.out]; rfl), HB5.out⟩
    · have N := Lib.hid (rf_8 O1.out C2.out O2.out O3.out O4.out h5)
      go_wp2
      go_ret
      exact ⟨ret_fault (by rw [N.out]; rfl), HB5.out⟩
/-- Check, of any rule in memory. -/
theorem check_any (r : Rl) (v : Value) (w : World) (hv : RuleIn w v r) :
    Calls Tryd.prog 20 #[v] w fun e w' => e = .returned (fault (rf r)) ∧ Below w.heap.size w w' := by
  obtain ⟨vm, vd, vw, vp, rfl, hm, hd, hw, hp⟩ := hv
  obtain ⟨am, cm, rfl, x1⟩ := id hm
  obtain ⟨ad, cd, rfl, x2⟩ := id hd
  obtain ⟨aw, cw, rfl, x3⟩ := id hw
  obtain ⟨ap, cp, rfl, x4⟩ := id hp
  exact check_walk r am ad aw ap cm cd cw cp w hm hd hw hp
end Go.Proofs.YtdiijpjfkgnjkacDoor
